/-
  Right operations.
-/
import Derived.Test.YthnjbjlhfohpfaaGreatNam
import Derived.Test.YthnjbjlhfohpfaaGreatRow
namespace Go.Proofs.YthnjbjlhfohpfaaGreat
set_option linter.unusedVariables false
set_option linter.unusedSimpArgs false
set_option synthInstance.maxSize 20000
set_option maxHeartbeats 2000000
set_option maxRecDepth 20000
open Go.RowKit Go.Maps

section
variable {P : Program} {C : World → Prop} {Q : Exit → Act → World → Prop} {a : Act} {w : World} {l : List Oper} {i : Nat} {o : Oper} {r : List (Bool × Nat)}
/-- A step whose guard is shut. -/
theorem ord_shut (hi : l[i]? = some o) (hw : Region.wanted o (yielded l.toArray a.tmps) = false) (h : wpQuiet P l.toArray C (fun a' => wpOrd P l.toArray C Q (pickOrd l r) a' w) [o] a) : wpOrd P l.toArray C Q (pickOrd l ((false, i) :: r)) a w := by
  rw [pickOrd_cons hi]
  show stepOp P l.toArray C false o (wpOrd P l.toArray C Q (pickOrd l r)) a w
  unfold stepOp
  rw [if_neg (by simp)]
  unfold wpQuiet at h
  rw [if_neg (by rw [hw]; simp)] at h
  exact ⟨undef, .inr ⟨hw, rfl⟩, h⟩
end
def rightB (s : S) : Bool := decide (rightP s)
def placedB (q : OpT) : Bool := (sameAt q.p (0, 0) || rightB q.p) && nameB q.s && ((q.vn : Int) == 0)
def bareB (q : OpT) : Bool := rightB q.n && sameAt q.p (0, 0) && (q.s.toList == []) && !q.d
theorem right43 (s : S) (w : World) : Calls Tryz.prog 58 #[sv s] w fun e w' => e = .returned (.bool (rightB s)) ∧ Below w.heap.size w w' := right_any s w
theorem placed44 (q : OpT) (w : World) : Calls Tryz.prog 59 #[ov q] w fun e w' => e = .returned (.bool (placedB q)) ∧ Below w.heap.size w w' := by
  have HN : Hid (∀ w', Calls Tryz.prog 74 #[.string q.s] w' fun e w'' => e = .returned (.bool (nameB q.s)) ∧ Below w'.heap.size w' w'') := fun w' => name14 q.s w'
  have HP : Hid (∀ w', Calls Tryz.prog 58 #[sv q.p] w' fun e w'' => e = .returned (.bool (rightB q.p)) ∧ Below w'.heap.size w' w'') := fun w' => right43 q.p w'
  have HR : Hid (∀ w', Calls Tryz.prog 73 #[] w' fun e w'' => e = .returned (sv (0, 0)) ∧ Below w'.heap.size w' w'') := fun w' => root26 w'
  have HQ : Hid (placedB q = ((sameAt q.p (0, 0) || rightB q.p) && nameB q.s && ((q.vn : Int) == 0))) := (rfl : placedB q = _)
  generalize hr : rightB q.p = rp at HP HQ
  generalize hn : nameB q.s = nm at HN HQ
  generalize hq : placedB q = pq at HQ
  clear hr hn hq
  obtain ⟨k, ⟨a1, a2⟩, ⟨n1, n2⟩, ⟨p1, p2⟩, d, s, va, vn, vc, b⟩ := q
  unfold ov oc
  dsimp only at *
  obtain ⟨w1, hw1⟩ : ∃ w1, w1 = w.alloc (.cells #[.int .i64 k, .int .i64 a1, .int .i64 a2, .int .i64 n1, .int .i64 n2, .int .i64 p1, .int .i64 p2, .bool d, .string s, .slice va vn vc] 38) := ⟨_, rfl⟩
  have HX : Hid (∀ w', Below w1.heap.size w1 w' → Blk w' w.heap.size 38 [.int .i64 k, .int .i64 a1, .int .i64 a2, .int .i64 n1, .int .i64 n2, .int .i64 p1, .int .i64 p2, .bool d, .string s, .slice va vn vc]) := fun w' hb => by
    refine Blk.below ?_ hb
    rw [hw1]
    exact blk_new w _ 38
  have HB1 : Hid (Below w.heap.size w w1) := by show Below _ _ _; rw [hw1]; exact balloc (Below.refl _ _) _
  obtain ⟨B, hB⟩ : ∃ B, B = w.heap.size := ⟨_, rfl⟩
  unfold sv at HR HP
  dsimp only at HR HP HQ
  have HS : Hid (sameAt (p1, p2) (0, 0) = (p1 == 0 && p2 == 0)) := (rfl : sameAt (p1, p2) (0, 0) = _)
  rw [HS.out] at HQ
  clear HS
  go_enter Tryz.func59, Tryz.ntmps59
  go_upto_region 1 with fail
  rw [← hw1]
  rw [← hB] at HX ⊢
  clear hw1 hB
  have c0 := fun z : WIn (fun w' => Below w1.heap.size w1 w') => (HX.out z.w z.ok).cell 0 _ rfl
  have c1 := fun z : WIn (fun w' => Below w1.heap.size w1 w') => (HX.out z.w z.ok).cell 1 _ rfl
  have c2 := fun z : WIn (fun w' => Below w1.heap.size w1 w') => (HX.out z.w z.ok).cell 2 _ rfl
  have c3 := fun z : WIn (fun w' => Below w1.heap.size w1 w') => (HX.out z.w z.ok).cell 3 _ rfl
  have c4 := fun z : WIn (fun w' => Below w1.heap.size w1 w') => (HX.out z.w z.ok).cell 4 _ rfl
  have c5 := fun z : WIn (fun w' => Below w1.heap.size w1 w') => (HX.out z.w z.ok).cell 5 _ rfl
  have c6 := fun z : WIn (fun w' => Below w1.heap.size w1 w') => (HX.out z.w z.ok).cell 6 _ rfl
  have c7 := fun z : WIn (fun w' => Below w1.heap.size w1 w') => (HX.out z.w z.ok).cell 7 _ rfl
  have c8 := fun z : WIn (fun w' => Below w1.heap.size w1 w') => (HX.out z.w z.ok).cell 8 _ rfl
  have c9 := fun z : WIn (fun w' => Below w1.heap.size w1 w') => (HX.out z.w z.ok).cell 9 _ rfl
  by_cases h1 : p1 = 0
  · subst h1
    by_cases h2 : p2 = 0
    · subst h2
      cases nm
      ·
        have ne : Nonempty (WIn (fun w' => Below w1.heap.size w1 w')) := ⟨⟨w1, Below.refl _ _⟩⟩
        refine wp_region_ord (C := fun w' => ∃ z : WIn (fun w' => Below w1.heap.size w1 w'), w' = z.w) [(false, 0), (false, 1), (true, 2), (false, 3), (false, 4), (false, 5), (false, 6), (false, 7), (false, 8), (false, 9), (false, 10), (false, 11), (true, 12), (false, 13), (false, 14), (false, 15), (false, 16), (false, 17), (false, 18), (false, 19), (false, 20)] (by kernel_rfl) (by kernel_rfl) ⟨⟨w1.drew, below_drewn w1 1⟩, rfl⟩ ?_
        iterate 2 (first | (refine ord_still rfl rfl ?_; go_big_quiet_step (fail); refine wpQuiet_nil ?_) | (refine ord_shut rfl rfl ?_; go_big_quiet_step (fail); refine wpQuiet_nil ?_))
        refine ord_mem rfl rfl ?_
        go_simp
        refine (HR.out _).mono ?_
        rintro r w3 ⟨rfl, hb_w3⟩
        have HB3 : Hid (Below w1.heap.size w1 w3) := bnext (below_drewn w1 1) hb_w3
        clear hb_w3
        refine ⟨⟨⟨w3, HB3.out⟩, rfl⟩, ?_⟩
        go_simp
        iterate 9 (first | (refine ord_still rfl rfl ?_; go_big_quiet_step (fail); refine wpQuiet_nil ?_) | (refine ord_shut rfl rfl ?_; go_big_quiet_step (fail); refine wpQuiet_nil ?_))
        refine ord_mem rfl rfl ?_
        go_simp
        refine (HN.out _).mono ?_
        rintro r w5 ⟨rfl, hb_w5⟩
        have HB5 : Hid (Below w1.heap.size w1 w5) := bnext HB3.out hb_w5
        clear hb_w5
        refine ⟨⟨⟨w5, HB5.out⟩, rfl⟩, ?_⟩
        go_simp
        iterate 8 (first | (refine ord_still rfl rfl ?_; go_big_quiet_step (fail); refine wpQuiet_nil ?_) | (refine ord_shut rfl rfl ?_; go_big_quiet_step (fail); refine wpQuiet_nil ?_))
        refine ord_end ?_
        clear c0 c1 c2 c3 c4 c5 c6 c7 c8 c9 ne
        go_wp2
        go_ret
        exact ⟨by rw [HQ.out]; simp [*], bnext HB1.out HB5.out⟩
      ·
        have ne : Nonempty (WIn (fun w' => Below w1.heap.size w1 w')) := ⟨⟨w1, Below.refl _ _⟩⟩
        refine wp_region_ord (C := fun w' => ∃ z : WIn (fun w' => Below w1.heap.size w1 w'), w' = z.w) [(false, 0), (false, 1), (true, 2), (false, 3), (false, 4), (false, 5), (false, 6), (false, 7), (false, 8), (false, 9), (false, 10), (false, 11), (true, 12), (false, 13), (false, 14), (false, 15), (false, 16), (false, 17), (false, 18), (false, 19), (false, 20)] (by kernel_rfl) (by kernel_rfl) ⟨⟨w1.drew, below_drewn w1 1⟩, rfl⟩ ?_
        iterate 2 (first | (refine ord_still rfl rfl ?_; go_big_quiet_step (fail); refine wpQuiet_nil ?_) | (refine ord_shut rfl rfl ?_; go_big_quiet_step (fail); refine wpQuiet_nil ?_))
        refine ord_mem rfl rfl ?_
        go_simp
        refine (HR.out _).mono ?_
        rintro r w3 ⟨rfl, hb_w3⟩
        have HB3 : Hid (Below w1.heap.size w1 w3) := bnext (below_drewn w1 1) hb_w3
        clear hb_w3
        refine ⟨⟨⟨w3, HB3.out⟩, rfl⟩, ?_⟩
        go_simp
        iterate 9 (first | (refine ord_still rfl rfl ?_; go_big_quiet_step (fail); refine wpQuiet_nil ?_) | (refine ord_shut rfl rfl ?_; go_big_quiet_step (fail); refine wpQuiet_nil ?_))
        refine ord_mem rfl rfl ?_
        go_simp
        refine (HN.out _).mono ?_
        rintro r w5 ⟨rfl, hb_w5⟩
        have HB5 : Hid (Below w1.heap.size w1 w5) := bnext HB3.out hb_w5
        clear hb_w5
        refine ⟨⟨⟨w5, HB5.out⟩, rfl⟩, ?_⟩
        go_simp
        iterate 8 (first | (refine ord_still rfl rfl ?_; go_big_quiet_step (fail); refine wpQuiet_nil ?_) | (refine ord_shut rfl rfl ?_; go_big_quiet_step (fail); refine wpQuiet_nil ?_))
        refine ord_end ?_
        clear c0 c1 c2 c3 c4 c5 c6 c7 c8 c9 ne
        go_wp2
        go_ret
        exact ⟨by rw [HQ.out]; simp [*], bnext HB1.out HB5.out⟩
    · have h2b : (p2 == 0) = false := by simp [h2]
      cases rp
      ·
        have ne : Nonempty (WIn (fun w' => Below w1.heap.size w1 w')) := ⟨⟨w1, Below.refl _ _⟩⟩
        refine wp_region_ord (C := fun w' => ∃ z : WIn (fun w' => Below w1.heap.size w1 w'), w' = z.w) [(false, 0), (false, 1), (true, 2), (false, 3), (false, 4), (false, 5), (false, 6), (true, 7), (false, 8), (false, 9), (false, 10), (false, 11), (false, 12), (false, 13), (false, 14), (false, 15), (false, 16), (false, 17), (false, 18), (false, 19), (false, 20)] (by kernel_rfl) (by kernel_rfl) ⟨⟨w1.drew, below_drewn w1 1⟩, rfl⟩ ?_
        iterate 2 (first | (refine ord_still rfl rfl ?_; go_big_quiet_step (fail); refine wpQuiet_nil ?_) | (refine ord_shut rfl rfl ?_; go_big_quiet_step (fail); refine wpQuiet_nil ?_))
        refine ord_mem rfl rfl ?_
        go_simp
        refine (HR.out _).mono ?_
        rintro r w3 ⟨rfl, hb_w3⟩
        have HB3 : Hid (Below w1.heap.size w1 w3) := bnext (below_drewn w1 1) hb_w3
        clear hb_w3
        refine ⟨⟨⟨w3, HB3.out⟩, rfl⟩, ?_⟩
        go_simp
        iterate 4 (first | (refine ord_still rfl rfl ?_; go_big_quiet_step (fail); refine wpQuiet_nil ?_) | (refine ord_shut rfl rfl ?_; go_big_quiet_step (fail); refine wpQuiet_nil ?_))
        refine ord_mem rfl rfl ?_
        go_simp
        refine (HP.out _).mono ?_
        rintro r w4 ⟨rfl, hb_w4⟩
        have HB4 : Hid (Below w1.heap.size w1 w4) := bnext HB3.out hb_w4
        clear hb_w4
        refine ⟨⟨⟨w4, HB4.out⟩, rfl⟩, ?_⟩
        go_simp
        iterate 13 (first | (refine ord_still rfl rfl ?_; go_big_quiet_step (fail); refine wpQuiet_nil ?_) | (refine ord_shut rfl rfl ?_; go_big_quiet_step (fail); refine wpQuiet_nil ?_))
        refine ord_end ?_
        clear c0 c1 c2 c3 c4 c5 c6 c7 c8 c9 ne
        go_wp2
        go_ret
        exact ⟨by rw [HQ.out]; simp [*], bnext HB1.out HB4.out⟩
      ·
        cases nm
        ·
          have ne : Nonempty (WIn (fun w' => Below w1.heap.size w1 w')) := ⟨⟨w1, Below.refl _ _⟩⟩
          refine wp_region_ord (C := fun w' => ∃ z : WIn (fun w' => Below w1.heap.size w1 w'), w' = z.w) [(false, 0), (false, 1), (true, 2), (false, 3), (false, 4), (false, 5), (false, 6), (true, 7), (false, 8), (false, 9), (false, 10), (false, 11), (true, 12), (false, 13), (false, 14), (false, 15), (false, 16), (false, 17), (false, 18), (false, 19), (false, 20)] (by kernel_rfl) (by kernel_rfl) ⟨⟨w1.drew, below_drewn w1 1⟩, rfl⟩ ?_
          iterate 2 (first | (refine ord_still rfl rfl ?_; go_big_quiet_step (fail); refine wpQuiet_nil ?_) | (refine ord_shut rfl rfl ?_; go_big_quiet_step (fail); refine wpQuiet_nil ?_))
          refine ord_mem rfl rfl ?_
          go_simp
          refine (HR.out _).mono ?_
          rintro r w3 ⟨rfl, hb_w3⟩
          have HB3 : Hid (Below w1.heap.size w1 w3) := bnext (below_drewn w1 1) hb_w3
          clear hb_w3
          refine ⟨⟨⟨w3, HB3.out⟩, rfl⟩, ?_⟩
          go_simp
          iterate 4 (first | (refine ord_still rfl rfl ?_; go_big_quiet_step (fail); refine wpQuiet_nil ?_) | (refine ord_shut rfl rfl ?_; go_big_quiet_step (fail); refine wpQuiet_nil ?_))
          refine ord_mem rfl rfl ?_
          go_simp
          refine (HP.out _).mono ?_
          rintro r w4 ⟨rfl, hb_w4⟩
          have HB4 : Hid (Below w1.heap.size w1 w4) := bnext HB3.out hb_w4
          clear hb_w4
          refine ⟨⟨⟨w4, HB4.out⟩, rfl⟩, ?_⟩
          go_simp
          iterate 4 (first | (refine ord_still rfl rfl ?_; go_big_quiet_step (fail); refine wpQuiet_nil ?_) | (refine ord_shut rfl rfl ?_; go_big_quiet_step (fail); refine wpQuiet_nil ?_))
          refine ord_mem rfl rfl ?_
          go_simp
          refine (HN.out _).mono ?_
          rintro r w5 ⟨rfl, hb_w5⟩
          have HB5 : Hid (Below w1.heap.size w1 w5) := bnext HB4.out hb_w5
          clear hb_w5
          refine ⟨⟨⟨w5, HB5.out⟩, rfl⟩, ?_⟩
          go_simp
          iterate 8 (first | (refine ord_still rfl rfl ?_; go_big_quiet_step (fail); refine wpQuiet_nil ?_) | (refine ord_shut rfl rfl ?_; go_big_quiet_step (fail); refine wpQuiet_nil ?_))
          refine ord_end ?_
          clear c0 c1 c2 c3 c4 c5 c6 c7 c8 c9 ne
          go_wp2
          go_ret
          exact ⟨by rw [HQ.out]; simp [*], bnext HB1.out HB5.out⟩
        ·
          have ne : Nonempty (WIn (fun w' => Below w1.heap.size w1 w')) := ⟨⟨w1, Below.refl _ _⟩⟩
          refine wp_region_ord (C := fun w' => ∃ z : WIn (fun w' => Below w1.heap.size w1 w'), w' = z.w) [(false, 0), (false, 1), (true, 2), (false, 3), (false, 4), (false, 5), (false, 6), (true, 7), (false, 8), (false, 9), (false, 10), (false, 11), (true, 12), (false, 13), (false, 14), (false, 15), (false, 16), (false, 17), (false, 18), (false, 19), (false, 20)] (by kernel_rfl) (by kernel_rfl) ⟨⟨w1.drew, below_drewn w1 1⟩, rfl⟩ ?_
          iterate 2 (first | (refine ord_still rfl rfl ?_; go_big_quiet_step (fail); refine wpQuiet_nil ?_) | (refine ord_shut rfl rfl ?_; go_big_quiet_step (fail); refine wpQuiet_nil ?_))
          refine ord_mem rfl rfl ?_
          go_simp
          refine (HR.out _).mono ?_
          rintro r w3 ⟨rfl, hb_w3⟩
          have HB3 : Hid (Below w1.heap.size w1 w3) := bnext (below_drewn w1 1) hb_w3
          clear hb_w3
          refine ⟨⟨⟨w3, HB3.out⟩, rfl⟩, ?_⟩
          go_simp
          iterate 4 (first | (refine ord_still rfl rfl ?_; go_big_quiet_step (fail); refine wpQuiet_nil ?_) | (refine ord_shut rfl rfl ?_; go_big_quiet_step (fail); refine wpQuiet_nil ?_))
          refine ord_mem rfl rfl ?_
          go_simp
          refine (HP.out _).mono ?_
          rintro r w4 ⟨rfl, hb_w4⟩
          have HB4 : Hid (Below w1.heap.size w1 w4) := bnext HB3.out hb_w4
          clear hb_w4
          refine ⟨⟨⟨w4, HB4.out⟩, rfl⟩, ?_⟩
          go_simp
          iterate 4 (first | (refine ord_still rfl rfl ?_; go_big_quiet_step (fail); refine wpQuiet_nil ?_) | (refine ord_shut rfl rfl ?_; go_big_quiet_step (fail); refine wpQuiet_nil ?_))
          refine ord_mem rfl rfl ?_
          go_simp
          refine (HN.out _).mono ?_
          rintro r w5 ⟨rfl, hb_w5⟩
          have HB5 : Hid (Below w1.heap.size w1 w5) := bnext HB4.out hb_w5
          clear hb_w5
          refine ⟨⟨⟨w5, HB5.out⟩, rfl⟩, ?_⟩
          go_simp
          iterate 8 (first | (refine ord_still rfl rfl ?_; go_big_quiet_step (fail); refine wpQuiet_nil ?_) | (refine ord_shut rfl rfl ?_; go_big_quiet_step (fail); refine wpQuiet_nil ?_))
          refine ord_end ?_
          clear c0 c1 c2 c3 c4 c5 c6 c7 c8 c9 ne
          go_wp2
          go_ret
          exact ⟨by rw [HQ.out]; simp [*], bnext HB1.out HB5.out⟩
  · have h1b : (p1 == 0) = false := by simp [h1]
    cases rp
    ·
      have ne : Nonempty (WIn (fun w' => Below w1.heap.size w1 w')) := ⟨⟨w1, Below.refl _ _⟩⟩
      refine wp_region_ord (C := fun w' => ∃ z : WIn (fun w' => Below w1.heap.size w1 w'), w' = z.w) [(false, 0), (false, 1), (true, 2), (false, 3), (false, 4), (false, 5), (false, 6), (true, 7), (false, 8), (false, 9), (false, 10), (false, 11), (false, 12), (false, 13), (false, 14), (false, 15), (false, 16), (false, 17), (false, 18), (false, 19), (false, 20)] (by kernel_rfl) (by kernel_rfl) ⟨⟨w1.drew, below_drewn w1 1⟩, rfl⟩ ?_
      iterate 2 (first | (refine ord_still rfl rfl ?_; go_big_quiet_step (fail); refine wpQuiet_nil ?_) | (refine ord_shut rfl rfl ?_; go_big_quiet_step (fail); refine wpQuiet_nil ?_))
      refine ord_mem rfl rfl ?_
      go_simp
      refine (HR.out _).mono ?_
      rintro r w3 ⟨rfl, hb_w3⟩
      have HB3 : Hid (Below w1.heap.size w1 w3) := bnext (below_drewn w1 1) hb_w3
      clear hb_w3
      refine ⟨⟨⟨w3, HB3.out⟩, rfl⟩, ?_⟩
      go_simp
      iterate 4 (first | (refine ord_still rfl rfl ?_; go_big_quiet_step (fail); refine wpQuiet_nil ?_) | (refine ord_shut rfl rfl ?_; go_big_quiet_step (fail); refine wpQuiet_nil ?_))
      refine ord_mem rfl rfl ?_
      go_simp
      refine (HP.out _).mono ?_
      rintro r w4 ⟨rfl, hb_w4⟩
      have HB4 : Hid (Below w1.heap.size w1 w4) := bnext HB3.out hb_w4
      clear hb_w4
      refine ⟨⟨⟨w4, HB4.out⟩, rfl⟩, ?_⟩
      go_simp
      iterate 13 (first | (refine ord_still rfl rfl ?_; go_big_quiet_step (fail); refine wpQuiet_nil ?_) | (refine ord_shut rfl rfl ?_; go_big_quiet_step (fail); refine wpQuiet_nil ?_))
      refine ord_end ?_
      clear c0 c1 c2 c3 c4 c5 c6 c7 c8 c9 ne
      go_wp2
      go_ret
      exact ⟨by rw [HQ.out]; simp [*], bnext HB1.out HB4.out⟩
    ·
      cases nm
      ·
        have ne : Nonempty (WIn (fun w' => Below w1.heap.size w1 w')) := ⟨⟨w1, Below.refl _ _⟩⟩
        refine wp_region_ord (C := fun w' => ∃ z : WIn (fun w' => Below w1.heap.size w1 w'), w' = z.w) [(false, 0), (false, 1), (true, 2), (false, 3), (false, 4), (false, 5), (false, 6), (true, 7), (false, 8), (false, 9), (false, 10), (false, 11), (true, 12), (false, 13), (false, 14), (false, 15), (false, 16), (false, 17), (false, 18), (false, 19), (false, 20)] (by kernel_rfl) (by kernel_rfl) ⟨⟨w1.drew, below_drewn w1 1⟩, rfl⟩ ?_
        iterate 2 (first | (refine ord_still rfl rfl ?_; go_big_quiet_step (fail); refine wpQuiet_nil ?_) | (refine ord_shut rfl rfl ?_; go_big_quiet_step (fail); refine wpQuiet_nil ?_))
        refine ord_mem rfl rfl ?_
        go_simp
        refine (HR.out _).mono ?_
        rintro r w3 ⟨rfl, hb_w3⟩
        have HB3 : Hid (Below w1.heap.size w1 w3) := bnext (below_drewn w1 1) hb_w3
        clear hb_w3
        refine ⟨⟨⟨w3, HB3.out⟩, rfl⟩, ?_⟩
        go_simp
        iterate 4 (first | (refine ord_still rfl rfl ?_; go_big_quiet_step (fail); refine wpQuiet_nil ?_) | (refine ord_shut rfl rfl ?_; go_big_quiet_step (fail); refine wpQuiet_nil ?_))
        refine ord_mem rfl rfl ?_
        go_simp
        refine (HP.out _).mono ?_
        rintro r w4 ⟨rfl, hb_w4⟩
        have HB4 : Hid (Below w1.heap.size w1 w4) := bnext HB3.out hb_w4
        clear hb_w4
        refine ⟨⟨⟨w4, HB4.out⟩, rfl⟩, ?_⟩
        go_simp
        iterate 4 (first | (refine ord_still rfl rfl ?_; go_big_quiet_step (fail); refine wpQuiet_nil ?_) | (refine ord_shut rfl rfl ?_; go_big_quiet_step (fail); refine wpQuiet_nil ?_))
        refine ord_mem rfl rfl ?_
        go_simp
        refine (HN.out _).mono ?_
        rintro r w5 ⟨rfl, hb_w5⟩
        have HB5 : Hid (Below w1.heap.size w1 w5) := bnext HB4.out hb_w5
        clear hb_w5
        refine ⟨⟨⟨w5, HB5.out⟩, rfl⟩, ?_⟩
        go_simp
        iterate 8 (first | (refine ord_still rfl rfl ?_; go_big_quiet_step (fail); refine wpQuiet_nil ?_) | (refine ord_shut rfl rfl ?_; go_big_quiet_step (fail); refine wpQuiet_nil ?_))
        refine ord_end ?_
        clear c0 c1 c2 c3 c4 c5 c6 c7 c8 c9 ne
        go_wp2
        go_ret
        exact ⟨by rw [HQ.out]; simp [*], bnext HB1.out HB5.out⟩
      ·
        have ne : Nonempty (WIn (fun w' => Below w1.heap.size w1 w')) := ⟨⟨w1, Below.refl _ _⟩⟩
        refine wp_region_ord (C := fun w' => ∃ z : WIn (fun w' => Below w1.heap.size w1 w'), w' = z.w) [(false, 0), (false, 1), (true, 2), (false, 3), (false, 4), (false, 5), (false, 6), (true, 7), (false, 8), (false, 9), (false, 10), (false, 11), (true, 12), (false, 13), (false, 14), (false, 15), (false, 16), (false, 17), (false, 18), (false, 19), (false, 20)] (by kernel_rfl) (by kernel_rfl) ⟨⟨w1.drew, below_drewn w1 1⟩, rfl⟩ ?_
        iterate 2 (first | (refine ord_still rfl rfl ?_; go_big_quiet_step (fail); refine wpQuiet_nil ?_) | (refine ord_shut rfl rfl ?_; go_big_quiet_step (fail); refine wpQuiet_nil ?_))
        refine ord_mem rfl rfl ?_
        go_simp
        refine (HR.out _).mono ?_
        rintro r w3 ⟨rfl, hb_w3⟩
        have HB3 : Hid (Below w1.heap.size w1 w3) := bnext (below_drewn w1 1) hb_w3
        clear hb_w3
        refine ⟨⟨⟨w3, HB3.out⟩, rfl⟩, ?_⟩
        go_simp
        iterate 4 (first | (refine ord_still rfl rfl ?_; go_big_quiet_step (fail); refine wpQuiet_nil ?_) | (refine ord_shut rfl rfl ?_; go_big_quiet_step (fail); refine wpQuiet_nil ?_))
        refine ord_mem rfl rfl ?_
        go_simp
        refine (HP.out _).mono ?_
        rintro r w4 ⟨rfl, hb_w4⟩
        have HB4 : Hid (Below w1.heap.size w1 w4) := bnext HB3.out hb_w4
        clear hb_w4
        refine ⟨⟨⟨w4, HB4.out⟩, rfl⟩, ?_⟩
        go_simp
        iterate 4 (first | (refine ord_still rfl rfl ?_; go_big_quiet_step (fail); refine wpQuiet_nil ?_) | (refine ord_shut rfl rfl ?_; go_big_quiet_step (fail); refine wpQuiet_nil ?_))
        refine ord_mem rfl rfl ?_
        go_simp
        refine (HN.out _).mono ?_
        rintro r w5 ⟨rfl, hb_w5⟩
        have HB5 : Hid (Below w1.heap.size w1 w5) := bnext HB4.out hb_w5
        clear hb_w5
        refine ⟨⟨⟨w5, HB5.out⟩, rfl⟩, ?_⟩
        go_simp
        iterate 8 (first | (refine ord_still rfl rfl ?_; go_big_quiet_step (fail); refine wpQuiet_nil ?_) | (refine ord_shut rfl rfl ?_; go_big_quiet_step (fail); refine wpQuiet_nil ?_))
        refine ord_end ?_
        clear c0 c1 c2 c3 c4 c5 c6 c7 c8 c9 ne
        go_wp2
        go_ret
        exact ⟨by rw [HQ.out]; simp [*], bnext HB1.out HB5.out⟩
theorem bare45 (q : OpT) (w : World) : Calls Tryz.prog 60 #[ov q] w fun e w' => e = .returned (.bool (bareB q)) ∧ Below w.heap.size w w' := by
  have HP : Hid (∀ w', Calls Tryz.prog 58 #[sv q.n] w' fun e w'' => e = .returned (.bool (rightB q.n)) ∧ Below w'.heap.size w' w'') := fun w' => right43 q.n w'
  have HR : Hid (∀ w', Calls Tryz.prog 73 #[] w' fun e w'' => e = .returned (sv (0, 0)) ∧ Below w'.heap.size w' w'') := fun w' => root26 w'
  have HQ : Hid (bareB q = (rightB q.n && sameAt q.p (0, 0) && (q.s.toList == []) && !q.d)) := (rfl : bareB q = _)
  generalize hr : rightB q.n = rp at HP HQ
  generalize hq : bareB q = pq at HQ
  clear hr hq
  obtain ⟨k, ⟨a1, a2⟩, ⟨n1, n2⟩, ⟨p1, p2⟩, d, s, va, vn, vc, b⟩ := q
  unfold ov oc
  dsimp only at *
  obtain ⟨w1, hw1⟩ : ∃ w1, w1 = w.alloc (.cells #[.int .i64 k, .int .i64 a1, .int .i64 a2, .int .i64 n1, .int .i64 n2, .int .i64 p1, .int .i64 p2, .bool d, .string s, .slice va vn vc] 38) := ⟨_, rfl⟩
  have HX : Hid (∀ w', Below w1.heap.size w1 w' → Blk w' w.heap.size 38 [.int .i64 k, .int .i64 a1, .int .i64 a2, .int .i64 n1, .int .i64 n2, .int .i64 p1, .int .i64 p2, .bool d, .string s, .slice va vn vc]) := fun w' hb => by
    refine Blk.below ?_ hb
    rw [hw1]
    exact blk_new w _ 38
  have HB1 : Hid (Below w.heap.size w w1) := by show Below _ _ _; rw [hw1]; exact balloc (Below.refl _ _) _
  obtain ⟨B, hB⟩ : ∃ B, B = w.heap.size := ⟨_, rfl⟩
  unfold sv at HR HP
  dsimp only at HR HP HQ
  have HS : Hid (sameAt (p1, p2) (0, 0) = (p1 == 0 && p2 == 0)) := (rfl : sameAt (p1, p2) (0, 0) = _)
  rw [HS.out] at HQ
  clear HS
  go_enter Tryz.func60, Tryz.ntmps60
  go_upto_region 1 with fail
  rw [← hw1]
  rw [← hB] at HX ⊢
  clear hw1 hB
  have c0 := fun z : WIn (fun w' => Below w1.heap.size w1 w') => (HX.out z.w z.ok).cell 0 _ rfl
  have c1 := fun z : WIn (fun w' => Below w1.heap.size w1 w') => (HX.out z.w z.ok).cell 1 _ rfl
  have c2 := fun z : WIn (fun w' => Below w1.heap.size w1 w') => (HX.out z.w z.ok).cell 2 _ rfl
  have c3 := fun z : WIn (fun w' => Below w1.heap.size w1 w') => (HX.out z.w z.ok).cell 3 _ rfl
  have c4 := fun z : WIn (fun w' => Below w1.heap.size w1 w') => (HX.out z.w z.ok).cell 4 _ rfl
  have c5 := fun z : WIn (fun w' => Below w1.heap.size w1 w') => (HX.out z.w z.ok).cell 5 _ rfl
  have c6 := fun z : WIn (fun w' => Below w1.heap.size w1 w') => (HX.out z.w z.ok).cell 6 _ rfl
  have c7 := fun z : WIn (fun w' => Below w1.heap.size w1 w') => (HX.out z.w z.ok).cell 7 _ rfl
  have c8 := fun z : WIn (fun w' => Below w1.heap.size w1 w') => (HX.out z.w z.ok).cell 8 _ rfl
  have c9 := fun z : WIn (fun w' => Below w1.heap.size w1 w') => (HX.out z.w z.ok).cell 9 _ rfl
  cases rp
  ·
    have ne : Nonempty (WIn (fun w' => Below w1.heap.size w1 w')) := ⟨⟨w1, Below.refl _ _⟩⟩
    refine wp_region_ord (C := fun w' => ∃ z : WIn (fun w' => Below w1.heap.size w1 w'), w' = z.w) [(false, 0), (false, 1), (true, 2), (false, 3), (false, 4), (false, 5), (false, 6), (false, 7), (false, 8), (false, 9), (false, 10), (false, 11), (false, 12), (false, 13), (false, 14), (false, 15), (false, 16), (false, 17), (false, 18), (false, 19)] (by kernel_rfl) (by kernel_rfl) ⟨⟨w1.drew, below_drewn w1 1⟩, rfl⟩ ?_
    iterate 2 (first | (refine ord_still rfl rfl ?_; go_big_quiet_step (fail); refine wpQuiet_nil ?_) | (refine ord_shut rfl rfl ?_; go_big_quiet_step (fail); refine wpQuiet_nil ?_))
    refine ord_mem rfl rfl ?_
    go_simp
    refine (HP.out _).mono ?_
    rintro r w3 ⟨rfl, hb_w3⟩
    have HB3 : Hid (Below w1.heap.size w1 w3) := bnext (below_drewn w1 1) hb_w3
    clear hb_w3
    refine ⟨⟨⟨w3, HB3.out⟩, rfl⟩, ?_⟩
    go_simp
    iterate 17 (first | (refine ord_still rfl rfl ?_; go_big_quiet_step (fail); refine wpQuiet_nil ?_) | (refine ord_shut rfl rfl ?_; go_big_quiet_step (fail); refine wpQuiet_nil ?_))
    refine ord_end ?_
    clear c0 c1 c2 c3 c4 c5 c6 c7 c8 c9 ne
    go_wp2
    go_ret
    exact ⟨by rw [HQ.out]; simp [*], bnext HB1.out HB3.out⟩
  · by_cases h1 : p1 = 0
    · subst h1
      by_cases h2 : p2 = 0
      · subst h2
        by_cases h3 : s.toList = []
        · have h3b : (s.toList == []) = true := by simp [h3]
          have ne : Nonempty (WIn (fun w' => Below w1.heap.size w1 w')) := ⟨⟨w1, Below.refl _ _⟩⟩
          refine wp_region_ord (C := fun w' => ∃ z : WIn (fun w' => Below w1.heap.size w1 w'), w' = z.w) [(false, 0), (false, 1), (true, 2), (false, 3), (false, 4), (false, 5), (true, 6), (false, 7), (false, 8), (false, 9), (false, 10), (false, 11), (false, 12), (false, 13), (false, 14), (false, 15), (false, 16), (false, 17), (false, 18), (false, 19)] (by kernel_rfl) (by kernel_rfl) ⟨⟨w1.drew, below_drewn w1 1⟩, rfl⟩ ?_
          iterate 2 (first | (refine ord_still rfl rfl ?_; go_big_quiet_step (fail); refine wpQuiet_nil ?_) | (refine ord_shut rfl rfl ?_; go_big_quiet_step (fail); refine wpQuiet_nil ?_))
          refine ord_mem rfl rfl ?_
          go_simp
          refine (HP.out _).mono ?_
          rintro r w3 ⟨rfl, hb_w3⟩
          have HB3 : Hid (Below w1.heap.size w1 w3) := bnext (below_drewn w1 1) hb_w3
          clear hb_w3
          refine ⟨⟨⟨w3, HB3.out⟩, rfl⟩, ?_⟩
          go_simp
          iterate 3 (first | (refine ord_still rfl rfl ?_; go_big_quiet_step (fail); refine wpQuiet_nil ?_) | (refine ord_shut rfl rfl ?_; go_big_quiet_step (fail); refine wpQuiet_nil ?_))
          refine ord_mem rfl rfl ?_
          go_simp
          refine (HR.out _).mono ?_
          rintro r w4 ⟨rfl, hb_w4⟩
          have HB4 : Hid (Below w1.heap.size w1 w4) := bnext HB3.out hb_w4
          clear hb_w4
          refine ⟨⟨⟨w4, HB4.out⟩, rfl⟩, ?_⟩
          go_simp
          iterate 13 (first | (refine ord_still rfl rfl ?_; go_big_quiet_step (fail); refine wpQuiet_nil ?_) | (refine ord_shut rfl rfl ?_; go_big_quiet_step (fail); refine wpQuiet_nil ?_))
          refine ord_end ?_
          clear c0 c1 c2 c3 c4 c5 c6 c7 c8 c9 ne
          go_wp2
          go_ret
          exact ⟨by rw [HQ.out]; simp [*], bnext HB1.out HB4.out⟩
        · have h3b : (s.toList == []) = false := by simp [h3]
          have ne : Nonempty (WIn (fun w' => Below w1.heap.size w1 w')) := ⟨⟨w1, Below.refl _ _⟩⟩
          refine wp_region_ord (C := fun w' => ∃ z : WIn (fun w' => Below w1.heap.size w1 w'), w' = z.w) [(false, 0), (false, 1), (true, 2), (false, 3), (false, 4), (false, 5), (true, 6), (false, 7), (false, 8), (false, 9), (false, 10), (false, 11), (false, 12), (false, 13), (false, 14), (false, 15), (false, 16), (false, 17), (false, 18), (false, 19)] (by kernel_rfl) (by kernel_rfl) ⟨⟨w1.drew, below_drewn w1 1⟩, rfl⟩ ?_
          iterate 2 (first | (refine ord_still rfl rfl ?_; go_big_quiet_step (fail); refine wpQuiet_nil ?_) | (refine ord_shut rfl rfl ?_; go_big_quiet_step (fail); refine wpQuiet_nil ?_))
          refine ord_mem rfl rfl ?_
          go_simp
          refine (HP.out _).mono ?_
          rintro r w3 ⟨rfl, hb_w3⟩
          have HB3 : Hid (Below w1.heap.size w1 w3) := bnext (below_drewn w1 1) hb_w3
          clear hb_w3
          refine ⟨⟨⟨w3, HB3.out⟩, rfl⟩, ?_⟩
          go_simp
          iterate 3 (first | (refine ord_still rfl rfl ?_; go_big_quiet_step (fail); refine wpQuiet_nil ?_) | (refine ord_shut rfl rfl ?_; go_big_quiet_step (fail); refine wpQuiet_nil ?_))
          refine ord_mem rfl rfl ?_
          go_simp
          refine (HR.out _).mono ?_
          rintro r w4 ⟨rfl, hb_w4⟩
          have HB4 : Hid (Below w1.heap.size w1 w4) := bnext HB3.out hb_w4
          clear hb_w4
          refine ⟨⟨⟨w4, HB4.out⟩, rfl⟩, ?_⟩
          go_simp
          iterate 13 (first | (refine ord_still rfl rfl ?_; go_big_quiet_step (fail); refine wpQuiet_nil ?_) | (refine ord_shut rfl rfl ?_; go_big_quiet_step (fail); refine wpQuiet_nil ?_))
          refine ord_end ?_
          clear c0 c1 c2 c3 c4 c5 c6 c7 c8 c9 ne
          go_wp2
          go_ret
          exact ⟨by rw [HQ.out]; simp [*], bnext HB1.out HB4.out⟩
      · have h2b : (p2 == 0) = false := by simp [h2]
        have ne : Nonempty (WIn (fun w' => Below w1.heap.size w1 w')) := ⟨⟨w1, Below.refl _ _⟩⟩
        refine wp_region_ord (C := fun w' => ∃ z : WIn (fun w' => Below w1.heap.size w1 w'), w' = z.w) [(false, 0), (false, 1), (true, 2), (false, 3), (false, 4), (false, 5), (true, 6), (false, 7), (false, 8), (false, 9), (false, 10), (false, 11), (false, 12), (false, 13), (false, 14), (false, 15), (false, 16), (false, 17), (false, 18), (false, 19)] (by kernel_rfl) (by kernel_rfl) ⟨⟨w1.drew, below_drewn w1 1⟩, rfl⟩ ?_
        iterate 2 (first | (refine ord_still rfl rfl ?_; go_big_quiet_step (fail); refine wpQuiet_nil ?_) | (refine ord_shut rfl rfl ?_; go_big_quiet_step (fail); refine wpQuiet_nil ?_))
        refine ord_mem rfl rfl ?_
        go_simp
        refine (HP.out _).mono ?_
        rintro r w3 ⟨rfl, hb_w3⟩
        have HB3 : Hid (Below w1.heap.size w1 w3) := bnext (below_drewn w1 1) hb_w3
        clear hb_w3
        refine ⟨⟨⟨w3, HB3.out⟩, rfl⟩, ?_⟩
        go_simp
        iterate 3 (first | (refine ord_still rfl rfl ?_; go_big_quiet_step (fail); refine wpQuiet_nil ?_) | (refine ord_shut rfl rfl ?_; go_big_quiet_step (fail); refine wpQuiet_nil ?_))
        refine ord_mem rfl rfl ?_
        go_simp
        refine (HR.out _).mono ?_
        rintro r w4 ⟨rfl, hb_w4⟩
        have HB4 : Hid (Below w1.heap.size w1 w4) := bnext HB3.out hb_w4
        clear hb_w4
        refine ⟨⟨⟨w4, HB4.out⟩, rfl⟩, ?_⟩
        go_simp
        iterate 13 (first | (refine ord_still rfl rfl ?_; go_big_quiet_step (fail); refine wpQuiet_nil ?_) | (refine ord_shut rfl rfl ?_; go_big_quiet_step (fail); refine wpQuiet_nil ?_))
        refine ord_end ?_
        clear c0 c1 c2 c3 c4 c5 c6 c7 c8 c9 ne
        go_wp2
        go_ret
        exact ⟨by rw [HQ.out]; simp [*], bnext HB1.out HB4.out⟩
    · have h1b : (p1 == 0) = false := by simp [h1]
      have ne : Nonempty (WIn (fun w' => Below w1.heap.size w1 w')) := ⟨⟨w1, Below.refl _ _⟩⟩
      refine wp_region_ord (C := fun w' => ∃ z : WIn (fun w' => Below w1.heap.size w1 w'), w' = z.w) [(false, 0), (false, 1), (true, 2), (false, 3), (false, 4), (false, 5), (true, 6), (false, 7), (false, 8), (false, 9), (false, 10), (false, 11), (false, 12), (false, 13), (false, 14), (false, 15), (false, 16), (false, 17), (false, 18), (false, 19)] (by kernel_rfl) (by kernel_rfl) ⟨⟨w1.drew, below_drewn w1 1⟩, rfl⟩ ?_
      iterate 2 (first | (refine ord_still rfl rfl ?_; go_big_quiet_step (fail); refine wpQuiet_nil ?_) | (refine ord_shut rfl rfl ?_; go_big_quiet_step (fail); refine wpQuiet_nil ?_))
      refine ord_mem rfl rfl ?_
      go_simp
      refine (HP.out _).mono ?_
      rintro r w3 ⟨rfl, hb_w3⟩
      have HB3 : Hid (Below w1.heap.size w1 w3) := bnext (below_drewn w1 1) hb_w3
      clear hb_w3
      refine ⟨⟨⟨w3, HB3.out⟩, rfl⟩, ?_⟩
      go_simp
      iterate 3 (first | (refine ord_still rfl rfl ?_; go_big_quiet_step (fail); refine wpQuiet_nil ?_) | (refine ord_shut rfl rfl ?_; go_big_quiet_step (fail); refine wpQuiet_nil ?_))
      refine ord_mem rfl rfl ?_
      go_simp
      refine (HR.out _).mono ?_
      rintro r w4 ⟨rfl, hb_w4⟩
      have HB4 : Hid (Below w1.heap.size w1 w4) := bnext HB3.out hb_w4
      clear hb_w4
      refine ⟨⟨⟨w4, HB4.out⟩, rfl⟩, ?_⟩
      go_simp
      iterate 13 (first | (refine ord_still rfl rfl ?_; go_big_quiet_step (fail); refine wpQuiet_nil ?_) | (refine ord_shut rfl rfl ?_; go_big_quiet_step (fail); refine wpQuiet_nil ?_))
      refine ord_end ?_
      clear c0 c1 c2 c3 c4 c5 c6 c7 c8 c9 ne
      go_wp2
      go_ret
      exact ⟨by rw [HQ.out]; simp [*], bnext HB1.out HB4.out⟩
def rightO (q : OpT) : Bool := rightB q.a && (if q.k = 1 then sameAt q.n q.a && placedB q else if q.k = 2 then rightB q.n && placedB q && !q.d else if q.k = 3 then bareB q && ((q.vn : Int) == 0) else if q.k = 4 then bareB q && decide ((q.vn : Int) ≤ 400) else false)
theorem right16 (q : OpT) (w : World) : Calls Tryz.prog 35 #[ov q] w fun e w' => e = .returned (.bool (rightO q)) ∧ Below w.heap.size w w' := by
  have HA : Hid (∀ w', Calls Tryz.prog 58 #[sv q.a] w' fun e w'' => e = .returned (.bool (rightB q.a)) ∧ Below w'.heap.size w' w'') := fun w' => right43 q.a w'
  have HN : Hid (∀ w', Calls Tryz.prog 58 #[sv q.n] w' fun e w'' => e = .returned (.bool (rightB q.n)) ∧ Below w'.heap.size w' w'') := fun w' => right43 q.n w'
  have HP : Hid (∀ w', Calls Tryz.prog 59 #[ov q] w' fun e w'' => e = .returned (.bool (placedB q)) ∧ Below w'.heap.size w' w'') := fun w' => placed44 q w'
  have HR : Hid (∀ w', Calls Tryz.prog 60 #[ov q] w' fun e w'' => e = .returned (.bool (bareB q)) ∧ Below w'.heap.size w' w'') := fun w' => bare45 q w'
  have HQ : Hid (rightO q = (rightB q.a && (if q.k = 1 then sameAt q.n q.a && placedB q else if q.k = 2 then rightB q.n && placedB q && !q.d else if q.k = 3 then bareB q && ((q.vn : Int) == 0) else if q.k = 4 then bareB q && decide ((q.vn : Int) ≤ 400) else false))) := (rfl : rightO q = _)
  generalize rightB q.a = ra at HA HQ
  generalize rightB q.n = rn at HN HQ
  generalize placedB q = pl at HP HQ
  generalize bareB q = br at HR HQ
  generalize rightO q = rq at HQ ⊢
  obtain ⟨k, ⟨a1, a2⟩, ⟨n1, n2⟩, ⟨p1, p2⟩, d, s, va, vn, vc, b⟩ := q
  unfold ov oc at HP HR ⊢
  dsimp only at *
  obtain ⟨w1, hw1⟩ : ∃ w1, w1 = w.alloc (.cells #[.int .i64 k, .int .i64 a1, .int .i64 a2, .int .i64 n1, .int .i64 n2, .int .i64 p1, .int .i64 p2, .bool d, .string s, .slice va vn vc] 38) := ⟨_, rfl⟩
  have HX : Hid (∀ w', Below w1.heap.size w1 w' → Blk w' w.heap.size 38 [.int .i64 k, .int .i64 a1, .int .i64 a2, .int .i64 n1, .int .i64 n2, .int .i64 p1, .int .i64 p2, .bool d, .string s, .slice va vn vc]) := fun w' hb => by
    refine Blk.below ?_ hb
    rw [hw1]
    exact blk_new w _ 38
  have HB1 : Hid (Below w.heap.size w w1) := by show Below _ _ _; rw [hw1]; exact balloc (Below.refl _ _) _
  obtain ⟨B, hB⟩ : ∃ B, B = w.heap.size := ⟨_, rfl⟩
  unfold sv at HA HN
  dsimp only at HA HN HP HR HQ
  have HS : Hid (sameAt (n1, n2) (a1, a2) = (n1 == a1 && n2 == a2)) := (rfl : sameAt (n1, n2) (a1, a2) = _)
  rw [HS.out] at HQ
  clear HS
  have X1 := HX.out w1 (Below.refl _ _)
  rw [← hB] at X1
  have c0 := X1.cell 0 _ rfl; have c1 := X1.cell 1 _ rfl; have c2 := X1.cell 2 _ rfl; have c3 := X1.cell 3 _ rfl; have c4 := X1.cell 4 _ rfl; have c5 := X1.cell 5 _ rfl; have c6 := X1.cell 6 _ rfl; have c7 := X1.cell 7 _ rfl; have c8 := X1.cell 8 _ rfl; have c9 := X1.cell 9 _ rfl
  go_enter Tryz.func35, Tryz.ntmps35
  go_upto_region 1 with fail
  rw [← hw1]
  rw [← hB] at HX ⊢
  clear hw1 hB X1
  have h100 : Below w1.heap.size w1 w1 := Below.refl _ _
  cases ra
  · go_wp2_with (go_at_call 58; go_must (refine (HA.out _).mono ?_; rintro r w3 ⟨rfl, hb_w3⟩; have H_w3 : Hid (Below w1.heap.size w1 w3) := bnext (Below.refl _ _) hb_w3; have X_w3 := HX.out _ H_w3.out; have yw30 := X_w3.cell 0 _ rfl; have yw31 := X_w3.cell 1 _ rfl; have yw32 := X_w3.cell 2 _ rfl; have yw33 := X_w3.cell 3 _ rfl; have yw34 := X_w3.cell 4 _ rfl; have yw35 := X_w3.cell 5 _ rfl; have yw36 := X_w3.cell 6 _ rfl; have yw37 := X_w3.cell 7 _ rfl; have yw38 := X_w3.cell 8 _ rfl; have yw39 := X_w3.cell 9 _ rfl; clear X_w3 hb_w3))
    go_ret
    exact ⟨by rw [HQ.out]; simp, bnext HB1.out H_w3.out⟩
  · go_upto_region 3 with (go_at_call 58; go_must (refine (HA.out _).mono ?_; rintro r w3 ⟨rfl, hb_w3⟩; have H_w3 : Hid (Below w1.heap.size w1 w3) := bnext (Below.refl _ _) hb_w3; have X_w3 := HX.out _ H_w3.out; have yw30 := X_w3.cell 0 _ rfl; have yw31 := X_w3.cell 1 _ rfl; have yw32 := X_w3.cell 2 _ rfl; have yw33 := X_w3.cell 3 _ rfl; have yw34 := X_w3.cell 4 _ rfl; have yw35 := X_w3.cell 5 _ rfl; have yw36 := X_w3.cell 6 _ rfl; have yw37 := X_w3.cell 7 _ rfl; have yw38 := X_w3.cell 8 _ rfl; have yw39 := X_w3.cell 9 _ rfl; clear X_w3 hb_w3))
    clear c0 c1 c2 c3 c4 c5 c6 c7 c8 c9 h100
    by_cases k1 : k = 1
    · subst k1
      by_cases e1 : n1 = a1
      · subst e1
        by_cases e2 : n2 = a2
        · subst e2
          go_wp2_with (go_at_call 59; go_must (refine (HP.out _).mono ?_; rintro r w4 ⟨rfl, hb_w4⟩; have H_w4 : Hid (Below w1.heap.size w1 w4) := bnext H_w3.out hb_w4; have X_w4 := HX.out _ H_w4.out; have yw40 := X_w4.cell 0 _ rfl; have yw41 := X_w4.cell 1 _ rfl; have yw42 := X_w4.cell 2 _ rfl; have yw43 := X_w4.cell 3 _ rfl; have yw44 := X_w4.cell 4 _ rfl; have yw45 := X_w4.cell 5 _ rfl; have yw46 := X_w4.cell 6 _ rfl; have yw47 := X_w4.cell 7 _ rfl; have yw48 := X_w4.cell 8 _ rfl; have yw49 := X_w4.cell 9 _ rfl; clear X_w4 hb_w4))
          go_ret
          exact ⟨by rw [HQ.out]; simp, bnext HB1.out H_w4.out⟩
        · have e2b : (n2 == a2) = false := by simp [e2]
          go_wp2
          go_ret
          exact ⟨by rw [HQ.out]; simp [*], bnext HB1.out H_w3.out⟩
      · have e1b : (n1 == a1) = false := by simp [e1]
        go_wp2
        go_ret
        exact ⟨by rw [HQ.out]; simp [*], bnext HB1.out H_w3.out⟩
    · have k1b : (k == 1) = false := by simp [k1]
      by_cases k2 : k = 2
      · subst k2
        cases rn
        · go_wp2_with (go_at_call 58; go_must (refine (HN.out _).mono ?_; rintro r w4 ⟨rfl, hb_w4⟩; have H_w4 : Hid (Below w1.heap.size w1 w4) := bnext H_w3.out hb_w4; have X_w4 := HX.out _ H_w4.out; have yw40 := X_w4.cell 0 _ rfl; have yw41 := X_w4.cell 1 _ rfl; have yw42 := X_w4.cell 2 _ rfl; have yw43 := X_w4.cell 3 _ rfl; have yw44 := X_w4.cell 4 _ rfl; have yw45 := X_w4.cell 5 _ rfl; have yw46 := X_w4.cell 6 _ rfl; have yw47 := X_w4.cell 7 _ rfl; have yw48 := X_w4.cell 8 _ rfl; have yw49 := X_w4.cell 9 _ rfl; clear X_w4 hb_w4))
          go_ret
          exact ⟨by rw [HQ.out]; simp, bnext HB1.out H_w4.out⟩
        · cases pl
          · go_wp2_with (first | (go_at_call 58; go_must (refine (HN.out _).mono ?_; rintro r w4 ⟨rfl, hb_w4⟩; have H_w4 : Hid (Below w1.heap.size w1 w4) := bnext H_w3.out hb_w4; have X_w4 := HX.out _ H_w4.out; have yw40 := X_w4.cell 0 _ rfl; have yw41 := X_w4.cell 1 _ rfl; have yw42 := X_w4.cell 2 _ rfl; have yw43 := X_w4.cell 3 _ rfl; have yw44 := X_w4.cell 4 _ rfl; have yw45 := X_w4.cell 5 _ rfl; have yw46 := X_w4.cell 6 _ rfl; have yw47 := X_w4.cell 7 _ rfl; have yw48 := X_w4.cell 8 _ rfl; have yw49 := X_w4.cell 9 _ rfl; clear X_w4 hb_w4)) | (go_at_call 59; go_must (refine (HP.out _).mono ?_; rintro r w5 ⟨rfl, hb_w5⟩; have H_w5 : Hid (Below w1.heap.size w1 w5) := bnext H_w4.out hb_w5; have X_w5 := HX.out _ H_w5.out; have yw50 := X_w5.cell 0 _ rfl; have yw51 := X_w5.cell 1 _ rfl; have yw52 := X_w5.cell 2 _ rfl; have yw53 := X_w5.cell 3 _ rfl; have yw54 := X_w5.cell 4 _ rfl; have yw55 := X_w5.cell 5 _ rfl; have yw56 := X_w5.cell 6 _ rfl; have yw57 := X_w5.cell 7 _ rfl; have yw58 := X_w5.cell 8 _ rfl; have yw59 := X_w5.cell 9 _ rfl; clear X_w5 hb_w5)))
            go_ret
            exact ⟨by rw [HQ.out]; simp, bnext HB1.out H_w5.out⟩
          · go_wp2_with (first | (go_at_call 58; go_must (refine (HN.out _).mono ?_; rintro r w4 ⟨rfl, hb_w4⟩; have H_w4 : Hid (Below w1.heap.size w1 w4) := bnext H_w3.out hb_w4; have X_w4 := HX.out _ H_w4.out; have yw40 := X_w4.cell 0 _ rfl; have yw41 := X_w4.cell 1 _ rfl; have yw42 := X_w4.cell 2 _ rfl; have yw43 := X_w4.cell 3 _ rfl; have yw44 := X_w4.cell 4 _ rfl; have yw45 := X_w4.cell 5 _ rfl; have yw46 := X_w4.cell 6 _ rfl; have yw47 := X_w4.cell 7 _ rfl; have yw48 := X_w4.cell 8 _ rfl; have yw49 := X_w4.cell 9 _ rfl; clear X_w4 hb_w4)) | (go_at_call 59; go_must (refine (HP.out _).mono ?_; rintro r w5 ⟨rfl, hb_w5⟩; have H_w5 : Hid (Below w1.heap.size w1 w5) := bnext H_w4.out hb_w5; have X_w5 := HX.out _ H_w5.out; have yw50 := X_w5.cell 0 _ rfl; have yw51 := X_w5.cell 1 _ rfl; have yw52 := X_w5.cell 2 _ rfl; have yw53 := X_w5.cell 3 _ rfl; have yw54 := X_w5.cell 4 _ rfl; have yw55 := X_w5.cell 5 _ rfl; have yw56 := X_w5.cell 6 _ rfl; have yw57 := X_w5.cell 7 _ rfl; have yw58 := X_w5.cell 8 _ rfl; have yw59 := X_w5.cell 9 _ rfl; clear X_w5 hb_w5)))
            go_ret
            exact ⟨by rw [HQ.out]; simp, bnext HB1.out H_w5.out⟩
      · have k2b : (k == 2) = false := by simp [k2]
        by_cases k3 : k = 3
        · subst k3
          cases br
          · go_wp2_with (go_at_call 60; go_must (refine (HR.out _).mono ?_; rintro r w4 ⟨rfl, hb_w4⟩; have H_w4 : Hid (Below w1.heap.size w1 w4) := bnext H_w3.out hb_w4; have X_w4 := HX.out _ H_w4.out; have yw40 := X_w4.cell 0 _ rfl; have yw41 := X_w4.cell 1 _ rfl; have yw42 := X_w4.cell 2 _ rfl; have yw43 := X_w4.cell 3 _ rfl; have yw44 := X_w4.cell 4 _ rfl; have yw45 := X_w4.cell 5 _ rfl; have yw46 := X_w4.cell 6 _ rfl; have yw47 := X_w4.cell 7 _ rfl; have yw48 := X_w4.cell 8 _ rfl; have yw49 := X_w4.cell 9 _ rfl; clear X_w4 hb_w4))
            go_ret
            exact ⟨by rw [HQ.out]; simp, bnext HB1.out H_w4.out⟩
          · go_wp2_with (go_at_call 60; go_must (refine (HR.out _).mono ?_; rintro r w4 ⟨rfl, hb_w4⟩; have H_w4 : Hid (Below w1.heap.size w1 w4) := bnext H_w3.out hb_w4; have X_w4 := HX.out _ H_w4.out; have yw40 := X_w4.cell 0 _ rfl; have yw41 := X_w4.cell 1 _ rfl; have yw42 := X_w4.cell 2 _ rfl; have yw43 := X_w4.cell 3 _ rfl; have yw44 := X_w4.cell 4 _ rfl; have yw45 := X_w4.cell 5 _ rfl; have yw46 := X_w4.cell 6 _ rfl; have yw47 := X_w4.cell 7 _ rfl; have yw48 := X_w4.cell 8 _ rfl; have yw49 := X_w4.cell 9 _ rfl; clear X_w4 hb_w4))
            go_ret
            exact ⟨by rw [HQ.out]; simp, bnext HB1.out H_w4.out⟩
        · have k3b : (k == 3) = false := by simp [k3]
          by_cases k4 : k = 4
          · subst k4
            cases br
            · go_wp2_with (go_at_call 60; go_must (refine (HR.out _).mono ?_; rintro r w4 ⟨rfl, hb_w4⟩; have H_w4 : Hid (Below w1.heap.size w1 w4) := bnext H_w3.out hb_w4; have X_w4 := HX.out _ H_w4.out; have yw40 := X_w4.cell 0 _ rfl; have yw41 := X_w4.cell 1 _ rfl; have yw42 := X_w4.cell 2 _ rfl; have yw43 := X_w4.cell 3 _ rfl; have yw44 := X_w4.cell 4 _ rfl; have yw45 := X_w4.cell 5 _ rfl; have yw46 := X_w4.cell 6 _ rfl; have yw47 := X_w4.cell 7 _ rfl; have yw48 := X_w4.cell 8 _ rfl; have yw49 := X_w4.cell 9 _ rfl; clear X_w4 hb_w4))
              go_ret
              exact ⟨by rw [HQ.out]; simp, bnext HB1.out H_w4.out⟩
            · go_wp2_with (go_at_call 60; go_must (refine (HR.out _).mono ?_; rintro r w4 ⟨rfl, hb_w4⟩; have H_w4 : Hid (Below w1.heap.size w1 w4) := bnext H_w3.out hb_w4; have X_w4 := HX.out _ H_w4.out; have yw40 := X_w4.cell 0 _ rfl; have yw41 := X_w4.cell 1 _ rfl; have yw42 := X_w4.cell 2 _ rfl; have yw43 := X_w4.cell 3 _ rfl; have yw44 := X_w4.cell 4 _ rfl; have yw45 := X_w4.cell 5 _ rfl; have yw46 := X_w4.cell 6 _ rfl; have yw47 := X_w4.cell 7 _ rfl; have yw48 := X_w4.cell 8 _ rfl; have yw49 := X_w4.cell 9 _ rfl; clear X_w4 hb_w4))
              go_ret
              exact ⟨by rw [HQ.out]; simp, bnext HB1.out H_w4.out⟩
          · have k4b : (k == 4) = false := by simp [k4]
            go_wp2
            go_ret
            exact ⟨by rw [HQ.out]; simp [*], bnext HB1.out H_w3.out⟩
end Go.Proofs.YthnjbjlhfohpfaaGreat
