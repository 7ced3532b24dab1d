/-
  What the reference answers of two vectors: Merge, Missing.
-/
import Derived.Test.YtdjfedlkfekeoaaRefTwo
import Derived.Test.YtdjfedlkfekeoaaVecLaws
namespace Go.Proofs.Ytdjfedlkfekeoaa
set_option linter.unusedVariables false
set_option linter.unusedSimpArgs false
open Go.RowKit

set_option maxHeartbeats 2000000 in
set_option maxRecDepth 20000 in
theorem refmerge_any (va vb : Value) (a b : List H) (w : World) (ha : RdH w va a) (hb : RdH w vb b) :
    Calls Try.prog 21 #[va, vb] w fun e w' => ∃ v', e = .returned (.tuple #[v', .int .i64 (mergeV a b).2]) ∧ OwnH w.heap.size w' v' (mergeV a b).1 ∧ Below w.heap.size w w' := by
  have hA := fun w' h => refrightV_any va a w' h
  have hB := fun w' h => refrightV_any vb b w' h
  have hGA := fun (k : Nat) w' h => refget_any va a (k : Int) w' h
  have hGB := fun (k : Nat) w' h => refget_any vb b (k : Int) w' h
  have hX := fun w' h1 h2 => refconflict_any va vb a b w' h1 h2
  have HA : Hid (RdH w va a) := ha
  have HB : Hid (RdH w vb b) := hb
  have tk : Hid True := trivial
  obtain ⟨av, ca, rfl⟩ := ha.len
  obtain ⟨bv, cb, rfl⟩ := hb.len
  by_cases hr : RightV a ∧ RightV b
  · obtain ⟨ra, rb⟩ := hr
    have HC : Hid (mergeV a b = if (confV a b).2 then ([], 9) else (mergeTo a b 8, 0)) := by show mergeV a b = _; unfold mergeV; rw [both_t ra rb]; rfl
    rw [rightB_true ra] at hA
    rw [rightB_true rb] at hB
    have HRA : Hid (∀ k : Nat, getR a (k : Int) = getV a (k : Int)) := fun k => getR_right ra _
    have HRB : Hid (∀ k : Nat, getR b (k : Int) = getV b (k : Int)) := fun k => getR_right rb _
    have HOA : Hid (∀ k, k < 8 → HOk (getV a ((k : Nat) : Int))) := fun k hk => getV_ok ha.1 (small64 hk)
    have HOB : Hid (∀ k, k < 8 → HOk (getV b ((k : Nat) : Int))) := fun k hk => getV_ok hb.1 (small64 hk)
    rw [HC.out]
    generalize confV a b = cf at hX
    obtain ⟨cw, ci⟩ := cf
    clear ha hb ra rb HC
    dsimp only at hX ⊢
    cases ci with
    | true =>
      rw [if_pos rfl]
      go_enter Try.func21, Try.ntmps21
      go_wp2_with (first
        | (go_at_call 14; have _t := tk; refine (hA _ HA.out).mono ?_; rintro e w1 ⟨rfl, hb1⟩; clear tk _t)
        | (go_at_call 14; refine (hB _ (HB.out.below hb1)).mono ?_; rintro e w2 ⟨rfl, hb2⟩)
        | (go_at_call 19; refine (hX _ (HA.out.below (bnext hb1 hb2)) (HB.out.below (bnext hb1 hb2))).mono ?_; rintro e w3 ⟨rfl, hb3⟩))
      go_ret2
      exact ⟨_, rfl, ownH_nil _ _, bnext (bnext hb1 hb2) hb3⟩
    | false =>
      rw [if_neg (by simp)]
      go_enter Try.func21, Try.ntmps21
      go_upto_region 7 with (first
        | (go_at_call 14; have _t := tk; refine (hA _ HA.out).mono ?_; rintro e w1 ⟨rfl, hb1⟩; clear tk _t)
        | (go_at_call 14; refine (hB _ (HB.out.below hb1)).mono ?_; rintro e w2 ⟨rfl, hb2⟩)
        | (go_at_call 19; refine (hX _ (HA.out.below (bnext hb1 hb2)) (HB.out.below (bnext hb1 hb2))).mono ?_; rintro e w3 ⟨rfl, hb3⟩))
      have HB3 : Hid (Below w.heap.size w w3) := bnext (bnext hb1 hb2) hb3
      clear hb1 hb2 hb3 hA hB hX
      go_wp2
      go_loopw [8, 9] (fun o i wr => ∃ k : Nat, i = .int .i64 k ∧ k ≤ 8 ∧ Hid (OwnH w.heap.size wr o (mergeTo a b k)) ∧ Hid (Below w.heap.size w wr)) (fun _ i _ => 8 - (intOf i).toNat)
      case atStart => exact ⟨0, rfl, by omega, ownH_nil _ _, HB3⟩
      case round =>
        obtain ⟨k, rfl, hk, HO, HW⟩ := hrel
        clear HB3
        have tk : Hid True := trivial
        obtain ⟨ov, oc, ho⟩ := HO.out.rd.len
        subst ho
        have hlen := mergeTo_len a b k
        by_cases hk8 : k < 8
        · have g1 := hGA k
          have g2 := hGB k
          rw [HRA.out k] at g1
          rw [HRB.out k] at g2
          have HM : Hid (mergeTo a b (k + 1) = mergeTo a b k ++ oneH (if (getV a (k : Nat)).2.1 < (getV b (k : Nat)).2.1 then getV b (k : Nat) else getV a (k : Nat))) := mergeTo_succ a b k
          have OA := HOA.out k hk8
          have OB := HOB.out k hk8
          have HO1 : Hid (HOk (getV a (k : Nat))) := OA
          have HO2 : Hid (HOk (getV b (k : Nat))) := OB
          clear OA OB
          generalize getV a (k : Nat) = x at g1 HM HO1
          generalize getV b (k : Nat) = y at g2 HM HO2
          generalize mergeTo a b k = l at HM HO hlen
          obtain ⟨x1, x2, x3⟩ := x
          obtain ⟨y1, y2, y3⟩ := y
          simp only [hv] at g1 g2
          dsimp only at HM
          have hcap := HO.out.rd.cap
          have hcs : (x2 < y2 ∧ 0 < y2) ∨ (x2 < y2 ∧ ¬ 0 < y2) ∨ (¬ x2 < y2 ∧ 0 < x2) ∨ (¬ x2 < y2 ∧ ¬ 0 < x2) := by omega
          rcases hcs with ⟨h1, h2⟩ | ⟨h1, h2⟩ | ⟨h1, h2⟩ | ⟨h1, h2⟩
          · have HE : Hid (mergeTo a b (k + 1) = l ++ [(y1, y2, y3)]) := by show mergeTo a b (k + 1) = _; rw [HM.out, if_pos h1, oneH_pos h2]
            go_wp2_with (first
              | (go_at_call 16; have _t := tk; refine (g1 _ (HA.out.below HW.out)).mono ?_; rintro e w3 ⟨rfl, hb3⟩; have HB3 : Hid _ := bnext HW.out hb3; have HP3 : Hid (OwnH w.heap.size w3 _ l) := HO.out.below hb3; clear tk _t hb3)
              | (go_at_call 16; refine (g2 _ (HB.out.below HB3.out)).mono ?_; rintro e w4 ⟨rfl, hb4⟩; have HB4 : Hid _ := bnext HB3.out hb4; have HP4 : Hid (OwnH w.heap.size w4 _ l) := HP3.out.below hb4; clear hb4)
              | (at_builtin; go_must (refine wpList_append_heads 22 Try.underlying22 rfl (.tmp 46) (.tmp 48) rfl w.heap.size _ l rfl (OwnH.below HP4.out (balloc (balloc (balloc (Below.refl _ _) _) _) _)) _ [(y1, y2, y3)] rfl (rdH_one' _ (y1, y2, y3) _ HO2.out (by simp)) (by simp; omega) (by have := HB4.out.size; simp; omega) ?_; intro v5 w5 hown5 hg5)))
            go_roundw
            case rel => exact ⟨k + 1, by go_num, by omega, (by show OwnH _ _ _ (mergeTo a b (k + 1)); rw [HE.out]; exact hown5), (balloc (balloc (balloc HB4.out _) _) _).grown hg5 (by have := HB4.out.size; simp; omega) (fun k hk => by have := (HP4.out.lt k hk).1; omega)⟩
            case measure => simp [intOf]; omega
          · have HE : Hid (mergeTo a b (k + 1) = l) := by show mergeTo a b (k + 1) = _; rw [HM.out, if_pos h1, oneH_neg h2, List.append_nil]
            go_wp2_with (first
              | (go_at_call 16; have _t := tk; refine (g1 _ (HA.out.below HW.out)).mono ?_; rintro e w3 ⟨rfl, hb3⟩; have HB3 : Hid _ := bnext HW.out hb3; have HP3 : Hid (OwnH w.heap.size w3 _ l) := HO.out.below hb3; clear tk _t hb3)
              | (go_at_call 16; refine (g2 _ (HB.out.below HB3.out)).mono ?_; rintro e w4 ⟨rfl, hb4⟩; have HB4 : Hid _ := bnext HB3.out hb4; have HP4 : Hid (OwnH w.heap.size w4 _ l) := HP3.out.below hb4; clear hb4))
            go_roundw
            case rel => exact ⟨k + 1, by go_num, by omega, (by show OwnH _ _ _ (mergeTo a b (k + 1)); rw [HE.out]; exact OwnH.below HP4.out (balloc (balloc (Below.refl _ _) _) _)), balloc (balloc HB4.out _) _⟩
            case measure => simp [intOf]; omega
          · have HE : Hid (mergeTo a b (k + 1) = l ++ [(x1, x2, x3)]) := by show mergeTo a b (k + 1) = _; rw [HM.out, if_neg h1, oneH_pos h2]
            go_wp2_with (first
              | (go_at_call 16; have _t := tk; refine (g1 _ (HA.out.below HW.out)).mono ?_; rintro e w3 ⟨rfl, hb3⟩; have HB3 : Hid _ := bnext HW.out hb3; have HP3 : Hid (OwnH w.heap.size w3 _ l) := HO.out.below hb3; clear tk _t hb3)
              | (go_at_call 16; refine (g2 _ (HB.out.below HB3.out)).mono ?_; rintro e w4 ⟨rfl, hb4⟩; have HB4 : Hid _ := bnext HB3.out hb4; have HP4 : Hid (OwnH w.heap.size w4 _ l) := HP3.out.below hb4; clear hb4)
              | (at_builtin; go_must (refine wpList_append_heads 22 Try.underlying22 rfl (.tmp 46) (.tmp 48) rfl w.heap.size _ l rfl (OwnH.below HP4.out (balloc (balloc (balloc (Below.refl _ _) _) _) _)) _ [(x1, x2, x3)] rfl (rdH_one' _ (x1, x2, x3) _ HO1.out (by simp)) (by simp; omega) (by have := HB4.out.size; simp; omega) ?_; intro v5 w5 hown5 hg5)))
            go_roundw
            case rel => exact ⟨k + 1, by go_num, by omega, (by show OwnH _ _ _ (mergeTo a b (k + 1)); rw [HE.out]; exact hown5), (balloc (balloc (balloc HB4.out _) _) _).grown hg5 (by have := HB4.out.size; simp; omega) (fun k hk => by have := (HP4.out.lt k hk).1; omega)⟩
            case measure => simp [intOf]; omega
          · have HE : Hid (mergeTo a b (k + 1) = l) := by show mergeTo a b (k + 1) = _; rw [HM.out, if_neg h1, oneH_neg h2, List.append_nil]
            go_wp2_with (first
              | (go_at_call 16; have _t := tk; refine (g1 _ (HA.out.below HW.out)).mono ?_; rintro e w3 ⟨rfl, hb3⟩; have HB3 : Hid _ := bnext HW.out hb3; have HP3 : Hid (OwnH w.heap.size w3 _ l) := HO.out.below hb3; clear tk _t hb3)
              | (go_at_call 16; refine (g2 _ (HB.out.below HB3.out)).mono ?_; rintro e w4 ⟨rfl, hb4⟩; have HB4 : Hid _ := bnext HB3.out hb4; have HP4 : Hid (OwnH w.heap.size w4 _ l) := HP3.out.below hb4; clear hb4))
            go_roundw
            case rel => exact ⟨k + 1, by go_num, by omega, (by show OwnH _ _ _ (mergeTo a b (k + 1)); rw [HE.out]; exact OwnH.below HP4.out (balloc (balloc (Below.refl _ _) _) _)), balloc (balloc HB4.out _) _⟩
            case measure => simp [intOf]; omega
        · obtain rfl : k = 8 := by omega
          go_wp2
          go_ret2
          exact ⟨_, rfl, HO.out, HW.out⟩
  · have HC : Hid (mergeV a b = ([], 1)) := by show mergeV a b = _; unfold mergeV; rw [notboth hr]; rfl
    rw [HC.out]
    by_cases ra : RightV a
    · have rb : ¬ RightV b := fun h => hr ⟨ra, h⟩
      rw [rightB_true ra] at hA
      rw [rightB_false rb] at hB
      clear ha hb ra rb HC hr hGA hGB hX
      go_enter Try.func21, Try.ntmps21
      go_wp2_with (first
        | (go_at_call 14; have _t := tk; refine (hA _ HA.out).mono ?_; rintro e w1 ⟨rfl, hb1⟩; clear tk _t)
        | (go_at_call 14; refine (hB _ (HB.out.below hb1)).mono ?_; rintro e w2 ⟨rfl, hb2⟩))
      go_ret2
      exact ⟨_, rfl, ownH_nil _ _, bnext hb1 hb2⟩
    · rw [rightB_false ra] at hA
      clear ha hb ra HC hr hGA hGB hX
      go_enter Try.func21, Try.ntmps21
      go_wp2_with (first
        | (go_at_call 14; refine (hA _ HA.out).mono ?_; rintro e w1 ⟨rfl, hb1⟩))
      go_ret2
      exact ⟨_, rfl, ownH_nil _ _, hb1⟩

/-- The heads of b whose Len is above a's, as the reference goes through b. -/
def furtherB (a : List H) (h : H) : Bool := decide ((getV a h.1).2.1 < h.2.1)
theorem filter_fm {f : Nat → List H} {p : H → Bool} : ∀ ks : List Nat, (ks.flatMap f).filter p = ks.flatMap fun k => (f k).filter p
  | [] => rfl
  | k :: ks => by rw [List.flatMap_cons, List.flatMap_cons, List.filter_append, filter_fm ks]
theorem miss_filter {a b : List H} (ra : RightV a) (rb : RightV b) : b.filter (furtherB a) = missTo a b 8 := by
  have e : b.filter (furtherB a) = (canon (fun k => getV b k) eight).filter (furtherB a) := by rw [canon_eq rb]
  rw [e]
  unfold canon missTo
  rw [filter_fm]
  show eight.flatMap _ = eight.flatMap _
  apply fm_congr
  intro k hk
  have ha := (getV_len ra (k : Nat)).1
  by_cases hp : 0 < (getV b (k : Nat)).2.1
  · rw [oneH_pos hp]
    unfold missF
    have e2 : furtherB a (getV b (k : Nat)) = decide (lenV a k < lenV b k) := by unfold furtherB lenV; rw [getV_writer]
    by_cases h : lenV a k < lenV b k
    · rw [if_pos h, oneH_pos hp, List.filter_cons, e2, decide_eq_true h]
      rfl
    · rw [if_neg h, oneH_zero, List.filter_cons, e2, decide_eq_false h]
      rfl
  · rw [oneH_neg hp]
    unfold missF
    rw [if_neg (by unfold lenV; omega), oneH_zero]
    rfl
theorem take_filter {l : List H} {p : H → Bool} {j : Nat} (hj : j < l.length) : (l.take (j + 1)).filter p = (l.take j).filter p ++ if p (l.getD j hz) = true then [l.getD j hz] else [] := by
  rw [List.take_succ_eq_append_getElem hj, List.filter_append, getD_of hj]
  congr 1
  cases h : p l[j] <;> simp [List.filter_cons, h]

set_option maxHeartbeats 2000000 in
set_option maxRecDepth 20000 in
theorem refmissing_any (va vb : Value) (a b : List H) (w : World) (ha : RdH w va a) (hb : RdH w vb b) :
    Calls Try.prog 25 #[va, vb] w fun e w' => ∃ v', e = .returned v' ∧ OwnH w.heap.size w' v' (missV a b) ∧ Below w.heap.size w w' := by
  have hA := fun w' h => refrightV_any va a w' h
  have hB := fun w' h => refrightV_any vb b w' h
  have hGA := fun x w' h => refget_any va a x w' h
  have hGB := trivial
  have HA : Hid (RdH w va a) := ha
  have HB : Hid (RdH w vb b) := hb
  have tk : Hid True := trivial
  obtain ⟨av, ca, rfl⟩ := ha.len
  obtain ⟨bv, cb, rfl⟩ := hb.len
  have hcb := hb.cap
  by_cases hr : RightV a ∧ RightV b
  · obtain ⟨ra, rb⟩ := hr
    have HC : Hid (missV a b = b.filter (furtherB a)) := by show missV a b = _; rw [miss_filter ra rb]; unfold missV; rw [both_t ra rb]; rfl
    have h8 := rb.len8
    rw [rightB_true ra] at hA
    rw [rightB_true rb] at hB
    have HRA : Hid (∀ x, getR a x = getV a x) := fun k => getR_right ra _
    have hfl := field_len
    rw [HC.out]
    clear ha hb ra rb HC hGB
    go_enter Try.func25, Try.ntmps25
    go_upto_region 4 with (first
        | (go_at_call 14; have _t := tk; refine (hA _ HA.out).mono ?_; rintro e w1 ⟨rfl, hb1⟩; clear tk _t)
        | (go_at_call 14; refine (hB _ (HB.out.below hb1)).mono ?_; rintro e w2 ⟨rfl, hb2⟩))
    have HB2 : Hid (Below w.heap.size w w2) := bnext hb1 hb2
    clear hb1 hb2 hA hB
    go_wp2
    go_loopw [5, 6] (fun o i wr => ∃ j : Nat, i = .int .i64 j ∧ j ≤ b.length ∧ Hid (OwnH w.heap.size wr o ((b.take j).filter (furtherB a))) ∧ Hid (Below w.heap.size w wr)) (fun _ i _ => b.length - (intOf i).toNat)
    case atStart => exact ⟨0, rfl, by omega, ownH_nil _ _, HB2⟩
    case round =>
      obtain ⟨j, rfl, hj, HO, HW⟩ := hrel
      clear HB2
      obtain ⟨ov, oc, ho⟩ := HO.out.rd.len
      subst ho
      have hlen : ((b.take j).filter (furtherB a)).length ≤ b.length := Nat.le_trans (List.length_filter_le _ _) (by rw [List.length_take]; omega)
      have hcap := HO.out.rd.cap
      by_cases hjl : j < b.length
      · have HT : Hid ((b.take (j + 1)).filter (furtherB a) = (b.take j).filter (furtherB a) ++ if furtherB a (b.getD j hz) = true then [b.getD j hz] else []) := take_filter hjl
        obtain ⟨bb, bo, rfl, hblt, hcell⟩ := HB.out.all (by omega)
        have HCJ : Hid (∀ w', Below w.heap.size w w' → w'.cell? ⟨bb, bo + j * 3, none⟩ = some (.int .i64 (b.getD j hz).1) ∧ w'.cell? ⟨bb, bo + j * 3 + 1, none⟩ = some (.int .i64 (b.getD j hz).2.1) ∧ w'.cell? ⟨bb, bo + j * 3 + 2, none⟩ = some (.int .u64 (b.getD j hz).2.2)) := fun w' h => hcell w' h j hjl
        clear hcell
        have HOK : Hid (HOk (b.getD j hz)) := HB.out.ok j hjl
        have HFB : Hid (furtherB a (b.getD j hz) = decide ((getV a (b.getD j hz).1).2.1 < (b.getD j hz).2.1)) := (rfl : furtherB a (b.getD j hz) = _)
        generalize b.getD j hz = y at HT HCJ HOK HFB
        obtain ⟨y1, y2, y3⟩ := y
        have g1 := hGA y1
        rw [HRA.out y1] at g1
        dsimp only at HFB
        generalize getV a y1 = x at g1 HFB
        obtain ⟨x1, x2, x3⟩ := x
        simp only [hv] at g1
        dsimp only at HFB
        generalize (b.take j).filter (furtherB a) = l at HT HO hlen hcap ⊢
        have q0 := fun z : WIn (fun w' => Below wr.heap.size wr w') => (HCJ.out z.w (bnext HW.out z.ok)).1
        have q1 := fun z : WIn (fun w' => Below wr.heap.size wr w') => (HCJ.out z.w (bnext HW.out z.ok)).2.1
        dsimp only at q0 q1
        have ne : Nonempty (WIn (fun w' => Below wr.heap.size wr w')) := ⟨⟨wr, Below.refl _ _⟩⟩
        by_cases hlt : x2 < y2
        · have HE : Hid ((b.take (j + 1)).filter (furtherB a) = l ++ [(y1, y2, y3)]) := by show _ = _; rw [HT.out, if_pos (by rw [HFB.out]; exact decide_eq_true hlt)]
          go_upto_region 7 with fail
          refine wp_region_ord (C := fun w' => ∃ z : WIn (fun w' => Below wr.heap.size wr w'), w' = z.w) [(false, 0), (false, 1), (false, 2), (false, 3), (false, 4), (false, 5), (false, 6), (false, 7), (false, 8), (false, 9), (false, 10), (true, 11), (false, 12), (false, 13)] (by kernel_rfl) (by kernel_rfl) ⟨⟨wr.drew, (Below.refl _ _).drew⟩, rfl⟩ ?_
          iterate 11 (refine ord_still rfl rfl ?_; go_big_quiet_step (fail); refine wpQuiet_nil ?_)
          refine ord_mem rfl rfl ?_
          go_simp
          refine (g1 _ (HA.out.below HW.out.drew)).mono ?_
          rintro e w3 ⟨rfl, hb3⟩
          have HB3 : Hid (Below wr.heap.size wr w3) := below_undrew hb3
          have HB4 : Hid (Below w.heap.size w w3) := bnext HW.out HB3.out
          clear hb3
          refine ⟨⟨⟨w3, HB3.out⟩, rfl⟩, ?_⟩
          iterate 2 (refine ord_still rfl rfl ?_; go_big_quiet_step (fail); refine wpQuiet_nil ?_)
          refine ord_end ?_
          clear q0 q1 ne
          obtain ⟨z0, z1, z2⟩ := HCJ.out w3 HB4.out
          dsimp only at z0 z1 z2
          go_wp2_with (at_builtin; go_must (refine wpList_append_heads 22 Try.underlying22 rfl (.tmp 35) (.tmp 40) rfl w.heap.size _ l rfl (OwnH.below HO.out (balloc HB3.out _)) _ [(y1, y2, y3)] rfl (rdH_one' _ (y1, y2, y3) _ HOK.out rfl) (by simp; omega) (by have := HB4.out.size; simp; omega) ?_; intro v5 w5 hown5 hg5))
          go_roundw
          case rel => exact ⟨j + 1, by go_num, by omega, (by show OwnH _ _ _ _; rw [HE.out]; exact hown5), (balloc HB4.out _).grown hg5 (by have := HB4.out.size; simp; omega) (fun k hk => by have := (HO.out.lt k hk).1; omega)⟩
          case measure => simp [intOf]; omega
        · have HE : Hid ((b.take (j + 1)).filter (furtherB a) = l) := by show _ = _; rw [HT.out, if_neg (by rw [HFB.out, decide_eq_false hlt]; simp), List.append_nil]
          go_upto_region 7 with fail
          refine wp_region_ord (C := fun w' => ∃ z : WIn (fun w' => Below wr.heap.size wr w'), w' = z.w) [(false, 0), (false, 1), (false, 2), (false, 3), (false, 4), (false, 5), (false, 6), (false, 7), (false, 8), (false, 9), (false, 10), (true, 11), (false, 12), (false, 13)] (by kernel_rfl) (by kernel_rfl) ⟨⟨wr.drew, (Below.refl _ _).drew⟩, rfl⟩ ?_
          iterate 11 (refine ord_still rfl rfl ?_; go_big_quiet_step (fail); refine wpQuiet_nil ?_)
          refine ord_mem rfl rfl ?_
          go_simp
          refine (g1 _ (HA.out.below HW.out.drew)).mono ?_
          rintro e w3 ⟨rfl, hb3⟩
          have HB3 : Hid (Below wr.heap.size wr w3) := below_undrew hb3
          have HB4 : Hid (Below w.heap.size w w3) := bnext HW.out HB3.out
          clear hb3
          refine ⟨⟨⟨w3, HB3.out⟩, rfl⟩, ?_⟩
          iterate 2 (refine ord_still rfl rfl ?_; go_big_quiet_step (fail); refine wpQuiet_nil ?_)
          refine ord_end ?_
          clear q0 q1 ne
          obtain ⟨z0, z1, z2⟩ := HCJ.out w3 HB4.out
          dsimp only at z0 z1 z2
          go_wp2
          go_roundw
          case rel => exact ⟨j + 1, by go_num, by omega, (by show OwnH _ _ _ _; rw [HE.out]; exact OwnH.below HO.out HB3.out), HB4⟩
          case measure => simp [intOf]; omega
      · obtain rfl : j = b.length := by omega
        go_wp2
        go_ret
        exact ⟨_, rfl, (by have := HO.out; rwa [List.take_length] at this), HW.out⟩
  · have HC : Hid (missV a b = []) := by show missV a b = _; unfold missV; rw [notboth hr]; rfl
    rw [HC.out]
    by_cases ra : RightV a
    · have rb : ¬ RightV b := fun h => hr ⟨ra, h⟩
      rw [rightB_true ra] at hA
      rw [rightB_false rb] at hB
      clear ha hb ra rb HC hr hGA hGB
      go_enter Try.func25, Try.ntmps25
      go_wp2_with (first
        | (go_at_call 14; have _t := tk; refine (hA _ HA.out).mono ?_; rintro e w1 ⟨rfl, hb1⟩; clear tk _t)
        | (go_at_call 14; refine (hB _ (HB.out.below hb1)).mono ?_; rintro e w2 ⟨rfl, hb2⟩))
      go_ret
      exact ⟨_, rfl, ownH_nil _ _, bnext hb1 hb2⟩
    · rw [rightB_false ra] at hA
      clear ha hb ra HC hr hGA hGB
      go_enter Try.func25, Try.ntmps25
      go_wp2_with (first
        | (go_at_call 14; refine (hA _ HA.out).mono ?_; rintro e w1 ⟨rfl, hb1⟩))
      go_ret
      exact ⟨_, rfl, ownH_nil _ _, hb1⟩
end Go.Proofs.Ytdjfedlkfekeoaa
