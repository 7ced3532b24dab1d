/-
  slices.MaxFunc over stamps, and Max.
-/
import Derived.Test.YtmifionpagpnfaaClock
import Derived.Test.YtmifionpagpnfaaOwnS
import Derived.Test.YtmifionpagpnfaaGot
import Derived.Test.YtmifionpagpnfaaTree
import Derived.Test.YtmifionpagpnfaaPuts
import Derived.Deep.DeepCutAuto
namespace Go.Proofs.Ytmifionpagpnfaa
set_option linter.unusedVariables false
open Go.RowKit

/-- The last in order of m and a list. -/
def maxFrom (m : S) : List S → S
  | [] => m
  | x :: r => maxFrom (if ltP m x then x else m) r
def maxS : List S → S
  | [] => (0, 0)
  | x :: r => maxFrom x r

theorem cmpS_pos (a b : S) : 0 < cmpS a b ↔ ltP b a := by
  rw [cmpS_turn, ← cmpS_neg]
  omega

theorem drop_getD {l : List S} {j : Nat} (h : j < l.length) : l.drop j = l.getD j (0, 0) :: l.drop (j + 1) := by
  rw [List.drop_eq_getElem_cons h, List.getD_eq_getElem?_getD, List.getElem?_eq_getElem h]
  rfl

set_option maxHeartbeats 2000000 in
set_option maxRecDepth 20000 in
theorem maxfunc_any (v : Value) (l : List S) (w : World) (hv : RdS w v l) (hl : 0 < l.length) :
    Calls Try.prog 38 #[v, .func (.func 14) #[] #[]] w fun e w' => e = .returned (sv (maxS l)) ∧ Below w.heap.size w w' := by
  obtain ⟨av, cv, rfl⟩ := hv.len
  have HV : Hid (RdS w (.slice av l.length cv) l) := hv
  have hcap := hv.cap
  obtain ⟨bv, ov, rfl, g0, g1⟩ := hv.at (balloc (Below.refl _ w) (.cells #[.int .i64 0, .int .i64 0] 23)) 0 hl
  have hcell : ∀ j, j < l.length → ∀ w', Below w.heap.size w w' → w'.cell? ⟨bv, ov + j * 2, none⟩ = some (.int .i64 (l.getD j (0, 0)).1) ∧ w'.cell? ⟨bv, ov + j * 2 + 1, none⟩ = some (.int .i64 (l.getD j (0, 0)).2) := fun j hj w' h => by
    obtain ⟨b, o, e, h0, h1⟩ := HV.out.at h j hj
    cases e
    exact ⟨h0, h1⟩
  have HCE : Hid (∀ j, j < l.length → ∀ w', Below w.heap.size w w' → w'.cell? ⟨bv, ov + j * 2, none⟩ = some (.int .i64 (l.getD j (0, 0)).1) ∧ w'.cell? ⟨bv, ov + j * 2 + 1, none⟩ = some (.int .i64 (l.getD j (0, 0)).2)) := hcell
  have HM : Hid (maxFrom (l.getD 0 (0, 0)) (l.drop 1) = maxS l) := by
    cases l with
    | nil => simp at hl
    | cons x r => rfl
  clear hv hcell
  simp only [Nat.zero_mul, Nat.add_zero] at g0 g1
  generalize hq : l.getD 0 (0, 0) = q at g0 g1 HM
  obtain ⟨q1, q2⟩ := q
  dsimp only at g0 g1
  clear hq
  go_enter Try.func38, Try.ntmps38
  go_wp2
  obtain ⟨w2, hw2⟩ : ∃ w2, w2 = (w.alloc (.cells #[.int .i64 0, .int .i64 0] 23)).alloc (.cells #[.int .i64 q1, .int .i64 q2] 23) := ⟨_, rfl⟩
  rw [← hw2]
  have HX4 : Hid (Blk w2 w.heap.size 23 [.int .i64 0, .int .i64 0]) := by show Blk _ _ _ _; rw [hw2]; exact (blk_new w [.int .i64 0, .int .i64 0] 23).alloc _
  have HX5 : Hid (Blk w2 (w.heap.size + 1) 23 [.int .i64 q1, .int .i64 q2]) := by show Blk _ _ _ _; rw [hw2]; have := blk_new (w.alloc (.cells #[.int .i64 0, .int .i64 0] 23)) [.int .i64 q1, .int .i64 q2] 23; simpa using this
  have HB2 : Hid (Below w.heap.size w w2) := by show Below _ _ _; rw [hw2]; exact balloc (balloc (Below.refl _ _) _) _
  clear hw2 g0 g1
  go_loopw [6] (fun i wr => ∃ (j : Nat) (m1 m2 : Int), i = .int .i64 j ∧ 1 ≤ j ∧ j ≤ l.length ∧ Hid (maxFrom (m1, m2) (l.drop j) = maxS l) ∧ Hid (Blk wr w.heap.size 23 [.int .i64 0, .int .i64 0]) ∧ Hid (Blk wr (w.heap.size + 1) 23 [.int .i64 m1, .int .i64 m2]) ∧ Hid (Below w.heap.size w wr)) (fun i _ => l.length - (intOf i).toNat)
  case atStart => exact ⟨1, q1, q2, rfl, by omega, by omega, HM, HX4, HX5, HB2⟩
  case round =>
    obtain ⟨j, m1, m2, rfl, hj1, hj, HMr, HY4, HY5, HBr⟩ := hrel
    clear HX4 HX5 HB2 HM
    by_cases hjn : j < l.length
    · have HCJ : Hid (∀ w', Below w.heap.size w w' → w'.cell? ⟨bv, ov + j * 2, none⟩ = some (.int .i64 (l.getD j (0, 0)).1) ∧ w'.cell? ⟨bv, ov + j * 2 + 1, none⟩ = some (.int .i64 (l.getD j (0, 0)).2)) := HCE.out j hjn
      have HD : Hid (l.drop j = l.getD j (0, 0) :: l.drop (j + 1)) := drop_getD hjn
      generalize l.getD j (0, 0) = x at HCJ HD
      obtain ⟨x1, x2⟩ := x
      dsimp only at HCJ
      have hC := fun w' => compare_any (x1, x2) (m1, m2) w'
      have HP : Hid (0 < cmpS (x1, x2) (m1, m2) ↔ ltP (m1, m2) (x1, x2)) := cmpS_pos (x1, x2) (m1, m2)
      have HMX : Hid (maxFrom (m1, m2) ((x1, x2) :: l.drop (j + 1)) = maxS l) := by show _ = _; rw [← HD.out]; exact HMr.out
      have hrg := cmpS_range (x1, x2) (m1, m2)
      generalize cmpS (x1, x2) (m1, m2) = r at hC HP hrg
      simp only [sv] at hC
      clear HD HMr
      go_upto_region 7 with fail
      have p0 := fun z : WIn (fun w' => Below wr.heap.size wr w') => (HCJ.out z.w (bnext HBr.out z.ok)).1
      have p1 := fun z : WIn (fun w' => Below wr.heap.size wr w') => (HCJ.out z.w (bnext HBr.out z.ok)).2
      have p2 := fun z : WIn (fun w' => Below wr.heap.size wr w') => (HY5.out.below z.ok).cell 0 _ rfl
      have p3 := fun z : WIn (fun w' => Below wr.heap.size wr w') => (HY5.out.below z.ok).cell 1 _ rfl
      have ne : Nonempty (WIn (fun w' => Below wr.heap.size wr w')) := ⟨⟨wr, Below.refl _ _⟩⟩
      refine wp_region_ord (C := fun w' => ∃ z : WIn (fun w' => Below wr.heap.size wr w'), w' = z.w) [(false, 0), (false, 1), (false, 2), (false, 3), (false, 4), (false, 5), (true, 6), (false, 7)] (by kernel_rfl) (by kernel_rfl) ⟨⟨wr.drew, (Below.refl _ _).drew⟩, rfl⟩ ?_
      iterate 6 (refine ord_still rfl rfl ?_; go_big_quiet_step (fail); refine wpQuiet_nil ?_)
      refine ord_mem rfl rfl ?_
      go_simp
      refine (hC _).mono ?_
      rintro e w3 ⟨rfl, hg3⟩
      have HB3 : Hid (Below wr.heap.size wr w3) := below_undrew (grow_below hg3)
      clear hg3 hC
      refine ⟨⟨⟨w3, HB3.out⟩, rfl⟩, ?_⟩
      iterate 1 (refine ord_still rfl rfl ?_; go_big_quiet_step (fail); refine wpQuiet_nil ?_)
      refine ord_end ?_
      clear p0 p1 p2 p3 ne
      have y0 := (HCJ.out w3 (bnext HBr.out HB3.out)).1
      have y1 := (HCJ.out w3 (bnext HBr.out HB3.out)).2
      have z0 := (HY5.out.below HB3.out).cell 0 _ rfl
      have z1 := (HY5.out.below HB3.out).cell 1 _ rfl
      have f0 := (HY5.out.below HB3.out).frozen 0
      have f1 := (HY5.out.below HB3.out).frozen 1
      by_cases hlt : ltP (m1, m2) (x1, x2)
      · have hr : 0 < r := HP.out.2 hlt
        have HM2 : Hid (maxFrom (x1, x2) (l.drop (j + 1)) = maxS l) := by show _ = _; rw [← HMX.out]; show _ = maxFrom (if _ then _ else _) _; rw [if_pos hlt]
        clear HP hlt
        go_wp2
        go_roundw
        case rel =>
          have K := HY5.out.below HB3.out
          refine ⟨j + 1, x1, x2, by go_num, by omega, by omega, HM2, ?_, ?_, ?_⟩
          · exact ((HY4.out.below HB3.out).block ((grown_setCell w3 (w.heap.size + 1) 0 _).block _ ((HY4.out.below HB3.out).lt) (by simp))).block ((grown_setCell _ (w.heap.size + 1) 1 _).block _ (by simp; exact (HY4.out.below HB3.out).lt) (by simp))
          · exact (K.set 0 (.int .i64 x1)).set 1 (.int .i64 x2)
          · exact bgrown (bgrown (bnext HBr.out HB3.out) (by omega) (grown_setCell _ _ _ _)) (by omega) (grown_setCell _ (w.heap.size + 1) _ _)
        case measure => simp [intOf]; omega
      · have hr : ¬ 0 < r := fun h => hlt (HP.out.1 h)
        have HM2 : Hid (maxFrom (m1, m2) (l.drop (j + 1)) = maxS l) := by show _ = _; rw [← HMX.out]; show _ = maxFrom (if _ then _ else _) _; rw [if_neg hlt]
        clear HP hlt
        go_wp2
        go_roundw
        case rel => exact ⟨j + 1, m1, m2, by go_num, by omega, by omega, HM2, HY4.out.below HB3.out, HY5.out.below HB3.out, bnext HBr.out HB3.out⟩
        case measure => simp [intOf]; omega
    · have hjl : j = l.length := by omega
      have HE : Hid (maxS l = (m1, m2)) := by show _ = _; rw [← HMr.out, hjl, List.drop_length]; rfl
      have z0 := HY5.out.cell 0 _ rfl
      have z1 := HY5.out.cell 1 _ rfl
      have y0 := HY4.out.cell 0 _ rfl
      have y1 := HY4.out.cell 1 _ rfl
      have f0 := HY4.out.frozen 0
      have f1 := HY4.out.frozen 1
      clear hjl HMr
      go_wp2
      refine bodyPost_ret (v := sv (m1, m2)) ?_ rfl ⟨by rw [HE.out], ?_⟩
      · rw [results_cell1 rfl]
        unfold sv
        go_simp
      · exact bgrown (bgrown HBr.out (Nat.le_refl _) (grown_setCell _ _ _ _)) (Nat.le_refl _) (grown_setCell _ w.heap.size _ _)

set_option maxHeartbeats 1000000 in
theorem max_any (v : Value) (l : List S) (w : World) (hv : RdS w v l) :
    Calls Try.prog 16 #[v] w fun e w' => e = .returned (sv (maxS l)) ∧ Below w.heap.size w w' := by
  obtain ⟨av, cv, rfl⟩ := hv.len
  have HV : Hid (RdS w (.slice av l.length cv) l) := hv
  have hcap := hv.cap
  clear hv
  by_cases hl : 0 < l.length
  · have hnil : ¬ l = [] := by intro h; rw [h] at hl; simp at hl
    have hne : ((l.length : Int) == 0) = false := by simpa using hnil
    have HB : Hid (Below w.heap.size w (w.alloc (.cells #[.int .i64 0, .int .i64 0] 23))) := balloc (Below.refl _ _) _
    have hM := maxfunc_any _ l _ (HV.out.below HB.out) hl
    generalize maxS l = q at hM ⊢
    obtain ⟨m1, m2⟩ := q
    simp only [sv] at hM ⊢
    go_enter Try.func16, Try.ntmps16
    go_wp2_with (go_at_call 38; refine hM.mono ?_; rintro e w2 ⟨rfl, hb2⟩
                 have X := (blk_new w [.int .i64 0, .int .i64 0] 23).below hb2
                 have y0 := X.cell 0 _ rfl
                 have y1 := X.cell 1 _ rfl
                 have f0 := X.frozen 0
                 have f1 := X.frozen 1)
    refine bodyPost_ret (v := .agg #[.int .i64 m1, .int .i64 m2]) ?_ rfl ⟨rfl, ?_⟩
    · rw [results_cell1 rfl]
      go_simp
    · exact bgrown (bgrown (bnext HB.out hb2) (Nat.le_refl _) (grown_setCell _ _ _ _)) (Nat.le_refl _) (grown_setCell _ w.heap.size _ _)
  · obtain rfl : l = [] := List.eq_nil_of_length_eq_zero (by omega)
    go_enter Try.func16, Try.ntmps16
    go_wp2
    refine bodyPost_ret (v := .agg #[.int .i64 0, .int .i64 0]) ?_ rfl ⟨rfl, ?_⟩
    · rw [results_cell1 rfl]
      go_simp
    · exact balloc (Below.refl _ _) _
end Go.Proofs.Ytmifionpagpnfaa
