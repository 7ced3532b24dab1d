/-
  The head of a writer, by the program and by the reference; both heads of each writer, one behind the other, handed to a closure.
-/
import Derived.Test.YtdjfedlkfekeoaaPlace
import Derived.Test.YtdjfedlkfekeoaaRefRight
namespace Go.Proofs.Ytdjfedlkfekeoaa
set_option linter.unusedVariables false
set_option linter.unusedSimpArgs false
open Go.RowKit

/-- The head of a writer, in whatever vector. -/
def getR (l : List H) (x : Int) : H := if rightB l = true then getV l x else (x, 0, 0)
theorem getR_right {l : List H} (h : RightV l) (x : Int) : getR l x = getV l x := if_pos (rightB_true h)
theorem getR_not {l : List H} (h : ¬ RightV l) (x : Int) : getR l x = (x, 0, 0) := if_neg (by rw [rightB_false h]; simp)

set_option maxHeartbeats 400000 in
theorem get_any (v : Value) (l : List H) (x : Int) (w : World) (hv0 : RdH w v l) :
    Calls Try.prog 15 #[v, .int .i64 x] w fun e w' => e = .returned (hv (getR l x)) ∧ Below w.heap.size w w' := by
  have hR := fun w' h => rightV_any v l w' h
  have HV : Hid (RdH w v l) := hv0
  obtain ⟨av, cv, rfl⟩ := hv0.len
  by_cases hr : RightV l
  · have hH := fun w' h => head_any (.slice av l.length cv) l x w' h hr
    have HG : Hid (getR l x = getV l x) := getR_right hr x
    rw [rightB_true hr] at hR
    generalize getV l x = y at hH HG
    obtain ⟨a, b, c⟩ := y
    simp only [hv] at hH
    clear hv0 hr
    go_enter Try.func15, Try.ntmps15
    go_wp2_with (first
      | (go_at_call 13; refine (hR _ (HV.out.below (balloc (Below.refl _ _) _))).mono ?_; rintro e w1 ⟨rfl, hb⟩)
      | (go_at_call 36; refine (hH _ (HV.out.below (bnext (balloc (Below.refl _ _) _) hb))).mono ?_; rintro e w2 ⟨rfl, hb2⟩
         have X := ((blk_new w [.int .i64 0, .int .i64 0, .int .u64 0] 25).below hb).below hb2
         have x0 := X.cell 0 _ rfl
         have x1 := X.cell 1 _ rfl
         have x2 := X.cell 2 _ rfl
         have f0 := X.frozen 0
         have f1 := X.frozen 1
         have f2 := X.frozen 2
         clear X))
    refine bodyPost_ret (v := hv (a, b, c)) ?_ rfl ⟨by rw [HG.out], ?_⟩
    · rw [results_cell1 rfl]
      unfold hv
      go_simp
    · exact (((bnext (bnext (balloc (Below.refl _ _) _) hb) hb2).setCell (Nat.le_refl _) _).setCell (Nat.le_refl _) _).setCell (Nat.le_refl _) _
  · have HG : Hid (getR l x = (x, 0, 0)) := getR_not hr x
    rw [rightB_false hr] at hR
    clear hv0 hr
    go_enter Try.func15, Try.ntmps15
    go_wp2_with (first
      | (go_at_call 13; refine (hR _ (HV.out.below (balloc (Below.refl _ _) _))).mono ?_; rintro e w1 ⟨rfl, hb⟩
         have X := (blk_new w [.int .i64 0, .int .i64 0, .int .u64 0] 25).below hb
         have x0 := X.cell 0 _ rfl
         have x1 := X.cell 1 _ rfl
         have x2 := X.cell 2 _ rfl
         have f0 := X.frozen 0
         have f1 := X.frozen 1
         have f2 := X.frozen 2
         clear X))
    refine bodyPost_ret (v := hv (x, 0, 0)) ?_ rfl ⟨by rw [HG.out], ?_⟩
    · rw [results_cell1 rfl]
      unfold hv
      go_simp
    · exact (((bnext (balloc (Below.refl _ _) _) hb).setCell (Nat.le_refl _) _).setCell (Nat.le_refl _) _).setCell (Nat.le_refl _) _

theorem getV_skip {l : List H} {x : Int} {j : Nat} (hj : j < l.length) (h : ∀ t, t < j → (l.getD t hz).1 ≠ x) (hf : (l.getD j hz).1 = x) : getV l x = l.getD j hz := by
  have e : l = l.take j ++ l.drop j := (List.take_append_drop j l).symm
  have e2 : l.drop j = l.getD j hz :: l.drop (j + 1) := by rw [List.drop_eq_getElem_cons hj, getD_of hj]
  rw [e, getV_append (fun y hy => by
    obtain ⟨t, ht, rfl⟩ := List.getElem_of_mem hy
    simp only [List.length_take] at ht
    have := h t (by omega)
    rw [getD_of (show t < l.length by omega)] at this
    simpa using this), ← e, e2, getV_cons, if_pos hf]
theorem getV_miss {l : List H} {x : Int} (h : ∀ t, t < l.length → (l.getD t hz).1 ≠ x) : getV l x = (x, 0, 0) := getV_none fun y hy e => by
  obtain ⟨t, ht, rfl⟩ := List.getElem_of_mem hy
  exact h t ht (by rw [getD_of ht]; exact e)

set_option maxHeartbeats 1000000 in
set_option maxRecDepth 20000 in
theorem refget_any (v : Value) (l : List H) (x : Int) (w : World) (hv0 : RdH w v l) :
    Calls Try.prog 16 #[v, .int .i64 x] w fun e w' => e = .returned (hv (getR l x)) ∧ Below w.heap.size w w' := by
  have hR := fun w' h => refrightV_any v l w' h
  have HV : Hid (RdH w v l) := hv0
  have HG : Hid (rightB l = true → getR l x = getV l x) := fun h => if_pos h
  have HF : Hid (rightB l = false → getR l x = (x, 0, 0)) := fun h => if_neg (by rw [h]; simp)
  obtain ⟨av, cv, rfl⟩ := hv0.len
  have hcap := hv0.cap
  clear hv0
  generalize rightB l = rb at hR HG HF
  go_enter Try.func16, Try.ntmps16
  go_wp2
  go_loopw [5] (fun i wr => ∃ j : Nat, i = .int .i64 j ∧ j ≤ l.length ∧ (0 < j → rb = true) ∧ Hid (∀ t, t < j → (l.getD t hz).1 ≠ x) ∧ Below w.heap.size w wr ∧ Blk wr w.heap.size 25 [.int .i64 0, .int .i64 0, .int .u64 0]) (fun i _ => l.length - (intOf i).toNat)
  case atStart => exact ⟨0, rfl, by omega, (fun h => by omega), (fun t ht => by omega : ∀ t, t < 0 → (l.getD t hz).1 ≠ x), balloc (Below.refl _ _) _, blk_new w [.int .i64 0, .int .i64 0, .int .u64 0] 25⟩
  case round =>
    obtain ⟨j, rfl, hj, hrb, HS, hb, X⟩ := hrel
    have HB : Hid (Below w.heap.size w wr) := hb
    have HX : Hid (Blk wr w.heap.size 25 [.int .i64 0, .int .i64 0, .int .u64 0]) := X
    clear hb X
    by_cases hjn : j < l.length
    · cases rb with
      | true =>
        obtain ⟨bv, ov, rfl, hblt, hcell⟩ := HV.out.all (by omega)
        have HC : Hid (∀ w', Below w.heap.size w w' → w'.cell? ⟨bv, ov + j * 3, none⟩ = some (.int .i64 (l.getD j hz).1) ∧ w'.cell? ⟨bv, ov + j * 3 + 1, none⟩ = some (.int .i64 (l.getD j hz).2.1) ∧ w'.cell? ⟨bv, ov + j * 3 + 2, none⟩ = some (.int .u64 (l.getD j hz).2.2)) := fun w' h => hcell w' h j hjn
        clear hcell
        by_cases hf : (l.getD j hz).1 = x
        · have HE : Hid (getR l x = l.getD j hz) := (HG.out rfl).trans (getV_skip hjn HS.out hf)
          generalize l.getD j hz = y at HC HE hf
          obtain ⟨a, b, c⟩ := y
          dsimp only at hf
          subst hf
          go_wp2_with (go_at_call 14; refine (hR _ (HV.out.below HB.out)).mono ?_; rintro e w1 ⟨rfl, hb1⟩
                       obtain ⟨g0, g1, g2⟩ := HC.out w1 (bnext HB.out hb1)
                       dsimp only at g0 g1 g2
                       have X := HX.out.below hb1
                       have x0 := X.cell 0 _ rfl
                       have x1 := X.cell 1 _ rfl
                       have x2 := X.cell 2 _ rfl
                       have f0 := X.frozen 0
                       have f1 := X.frozen 1
                       have f2 := X.frozen 2
                       clear X)
          refine bodyPost_ret (v := hv (a, b, c)) ?_ rfl ⟨by rw [HE.out], ?_⟩
          · rw [results_cell1 rfl]
            unfold hv
            go_simp
          · exact (((bnext HB.out hb1).setCell (Nat.le_refl _) _).setCell (Nat.le_refl _) _).setCell (Nat.le_refl _) _
        · have HS2 : Hid (∀ t, t < j + 1 → (l.getD t hz).1 ≠ x) := fun t ht => by
            by_cases e : t = j
            · subst e; exact hf
            · exact HS.out t (by omega)
          generalize l.getD j hz = y at HC hf
          obtain ⟨a, b, c⟩ := y
          dsimp only at hf
          have hf' : (a == x) = false := by simpa using hf
          go_wp2_with (go_at_call 14; refine (hR _ (HV.out.below HB.out)).mono ?_; rintro e w1 ⟨rfl, hb1⟩
                       obtain ⟨g0, g1, g2⟩ := HC.out w1 (bnext HB.out hb1)
                       dsimp only at g0 g1 g2)
          go_roundw
          case rel => exact ⟨j + 1, by go_num, by omega, (by simp), HS2, bnext HB.out hb1, HX.out.below hb1⟩
          case measure => simp [intOf]; omega
      | false =>
        have HE : Hid (getR l x = (x, 0, 0)) := HF.out rfl
        go_wp2_with (go_at_call 14; refine (hR _ (HV.out.below HB.out)).mono ?_; rintro e w1 ⟨rfl, hb1⟩
                     have X := HX.out.below hb1
                     have x0 := X.cell 0 _ rfl
                     have x1 := X.cell 1 _ rfl
                     have x2 := X.cell 2 _ rfl
                     have f0 := X.frozen 0
                     have f1 := X.frozen 1
                     have f2 := X.frozen 2
                     clear X)
        refine bodyPost_ret (v := hv (x, 0, 0)) ?_ rfl ⟨by rw [HE.out], ?_⟩
        · rw [results_cell1 rfl]
          unfold hv
          go_simp
        · exact (((bnext HB.out hb1).setCell (Nat.le_refl _) _).setCell (Nat.le_refl _) _).setCell (Nat.le_refl _) _
    · have HE : Hid (getR l x = (x, 0, 0)) := by
        have hm := getV_miss (fun t ht => HS.out t (by omega))
        cases rb with
        | true => exact (HG.out rfl).trans hm
        | false => exact HF.out rfl
      have X := HX.out
      have x0 := X.cell 0 _ rfl
      have x1 := X.cell 1 _ rfl
      have x2 := X.cell 2 _ rfl
      have f0 := X.frozen 0
      have f1 := X.frozen 1
      have f2 := X.frozen 2
      clear X hrb
      go_wp2
      refine bodyPost_ret (v := hv (x, 0, 0)) ?_ rfl ⟨by rw [HE.out], ?_⟩
      · rw [results_cell1 rfl]
        unfold hv
        go_simp
      · exact ((HB.out.setCell (Nat.le_refl _) _).setCell (Nat.le_refl _) _).setCell (Nat.le_refl _) _

end Go.Proofs.Ytdjfedlkfekeoaa
